/- What a drawn row is: a short list of short pairs, in a slice of the call's own.; Drawn queries.; The contracts of the functions on triples: their texts, and which is ahead. -/
import Derived.Test.YtiajdnhmjdfeeaaGreatK01
import Derived.Test.YtiajdnhmjdfeeaaGreatK16
import Derived.Maps.AppendAt
import Derived.Deep.RegionWith
import Derived.Test.YtiajdnhmjdfeeaaGreatK09
import Derived.Test.YtiajdnhmjdfeeaaGreatK19
import Derived.Test.YtiajdnhmjdfeeaaGreatK08
namespace Go.Proofs.YtiajdnhmjdfeeaaGreat
open Go.RowKit Go.WideShapes
def SmW (ts : List Pre2) : Prop := ts.length ≤ 4 ∧ ∀ t ∈ ts, t.1.size ≤ 6 ∧ t.2.size ≤ 6
def rowVars : Array Value := #[.string ⟨#[63, 120]⟩, .string ⟨#[63, 121]⟩, .string ⟨#[63, 122]⟩]
def rowVals : Array Value := #[.string ⟨#[60, 97, 62]⟩, .string ⟨#[60, 98, 62]⟩, .string ⟨#[95, 58, 98]⟩]
theorem upon_append_at {P : Program} {o : Oper} {a : Act} {w : World} {Q : Exit → Act → World → Prop} {K : Act → World → Prop} (_ : o.guard = none) (s x : Operand) (t : TypeId)
    (ho : o.op = .call { callee := .builtin .append, args := #[s, x], argTypes := #[t, t] })
    (base : Nat) (e : TypeId) (i : TypeInfo) (z : Value) (size bytes : Nat) (ht : P.underlying t = some (.slice e)) (hi : P.info? e = some i) (hz : i.zero = some z)
    (hsize : i.size = size) (hby : i.bytes = bytes) (hzs : z.cells.size = size) (hsz : 0 < size)
    (v : Value) (n : Nat) (xs : List Value) (hs : a.eval s = v) (hown : w.ownsRow base e size v n xs)
    (ad : Addr) (m c : Nat) (news : List Value) (hx : a.eval x = .slice (some ad) m c) (hl : news.length = m * size) (hnews : ∀ j u, news[j]? = some u → w.cell? (ad.add j) = some u) (h1 : ∀ u ∈ news, u.oneCell' = true)
    (h63 : n + m ≤ maxLen) (hbytes : (n + m) * bytes ≤ 140737488355328) (hbase : base ≤ w.heap.size)
    (h : ∀ v' w', w'.ownsRow base e size v' (n + m) (xs ++ news) → w.grownBy w' v.ownBlock → (v' = .slice none 0 0 ↔ v = .slice none 0 0 ∧ m = 0) → (v'.ownBlock = v.ownBlock ∨ v'.ownBlock = some w.heap.size) → K (a.put o.dst v') w') :
    Oper.wp P o a w K Q := by
  obtain ⟨v', w', hr, h2, h3, h4, h5⟩ := run_append_own_at (P := P) w base t o.type e i z size bytes ht hi hz hsize hby hzs hsz v n xs hown ad m c news hl hnews h1 h63 hbytes hbase
  unfold Oper.wp execOp
  simp only [ho, resolve, invoke, builtin, Sem.run_bind, Sem.run_pure, Result.andThen_ok, List.map_toArray, List.map_cons, List.map_nil, hs, hx, hr]
  exact h v' w' h2 h3 h4 h5
end Go.Proofs.YtiajdnhmjdfeeaaGreat
namespace Go.Proofs.YtiajdnhmjdfeeaaGreat
open Go.RowKit Go.WideShapes Go.Maps
theorem hold_off {B C : Nat} {w w' : World} {p : World → Prop} {row : Option Nat} (h : Holds B C w p) (gx : w.grownBy w' row) (hr : ∀ j, row = some j → j < B ∨ C ≤ j) : Holds B C w' p :=
  ⟨h.lives, Nat.le_trans h.le gx.size, h.lives w w' (fun k h1 h2 => gx.block k (Nat.lt_of_lt_of_le h2 h.le) (fun e => by have := hr k e.symm; omega)) h.now⟩
theorem ownS_off {B : Nat} {w w' : World} {v : Value} {ts : List ByteArray} {row : Option Nat} (h : OwnS B w v ts) (gx : w.grownBy w' row) (hr : ∀ j, row = some j → j < B) : OwnS B w' v ts := by
  have hlt := fun j hj => (World.ownsRow.lt h j hj).1
  refine World.ownsRow.kept h gx ?_
  rcases hob : Value.ownBlock v with _ | j
  · exact .inl rfl
  · refine .inr fun e => ?_
    have h1 := hlt j hob
    have h2 := hr j e.symm
    omega
theorem grown_into {a b c : World} {g : Nat} {r : Option Nat} (h : a.grownBy b (some g)) (k : b.grownBy c r) (hr : ∀ j, r = some j → a.heap.size ≤ j ∨ j = g) : a.grownBy c (some g) :=
  ⟨k.os.trans h.os, k.tape.trans h.tape, k.output.trans h.output, Nat.le_trans h.size k.size, fun i hi hne => (k.block i (Nat.lt_of_lt_of_le hi h.size) fun e => by
    rcases hr i e.symm with h1 | h1
    · omega
    · subst h1; exact hne rfl).trans (h.block i hi hne)⟩
theorem grown_setQ (w : World) (q i : Nat) (v : Value) : w.grownBy (w.setCell ⟨q, i, none⟩ v) (some q) :=
  ⟨rfl, rfl, rfl, by simp [World.setCell], fun k _ hne => Below.heap_setCell w _ v k (fun e => hne (by rw [e]))⟩
theorem cells_setQ {g : Nat} {a b c : Value} {T : TypeId} {w : World} (h : Holds g (g + 1) w (Cells g #[a, b, c] T)) (x : Value) :
    Holds g (g + 1) (w.setCell ⟨g, 0, none⟩ x) (Cells g #[x, b, c] T) ∧ Holds g (g + 1) (w.setCell ⟨g, 1, none⟩ x) (Cells g #[a, x, c] T) ∧ Holds g (g + 1) (w.setCell ⟨g, 2, none⟩ x) (Cells g #[a, b, x] T) := by
  have hn := h.now
  have hl := h.le
  unfold Cells at hn
  refine ⟨⟨cells_lives _ _ _, by simpa [World.setCell] using hl, ?_⟩, ⟨cells_lives _ _ _, by simpa [World.setCell] using hl, ?_⟩, ⟨cells_lives _ _ _, by simpa [World.setCell] using hl, ?_⟩⟩ <;>
  · unfold Cells; simp [World.setCell, Array.getElem?_modify, hn]
theorem Cells.freeQ {g : Nat} {x y z : Value} {T : TypeId} {w : World} (h : Cells g #[x, y, z] T w) : w.frozen? ⟨g, 0, none⟩ = false ∧ w.frozen? ⟨g, 1, none⟩ = false ∧ w.frozen? ⟨g, 2, none⟩ = false := ⟨h.free 0, h.free 1, h.free 2⟩
theorem own_sliceS {B : Nat} {w : World} {v : Value} {ts : List ByteArray} (h : OwnS B w v ts) : ∃ a n c, v = .slice a n c := by
  rcases h.2 with ⟨rfl, _⟩ | ⟨g, c, cur, rfl, _⟩
  · exact ⟨_, _, _, rfl⟩
  · exact ⟨_, _, _, rfl⟩
theorem own_lenS {B : Nat} {w : World} {a : Option Addr} {n c : Nat} {ts : List ByteArray} (h : OwnS B w (.slice a n c) ts) : ts.length = n := by
  obtain ⟨x, y, e, _⟩ := h.is
  simp only [Value.slice.injEq] at e
  exact e.2.1.symm
theorem SmA.sm {ps : List Tri3} (h : SmA ps) : Sm ps := fun t ht => by have := h t ht; omega
theorem allVars_20 {ts : List Tri3} (hs : SmA ts) : ∀ x ∈ (allVars ts).map bs, x.size ≤ 20 := by
  intro x hx
  obtain ⟨u, hu, rfl⟩ := List.mem_map.1 hx
  unfold allVars at hu
  rcases putAllS_mem.1 hu with h | h
  · simp at h
  · unfold varWords at h
    obtain ⟨t, ht, h⟩ := List.mem_flatMap.1 h
    unfold varsIn at h
    obtain ⟨h, _⟩ := List.mem_filter.1 h
    obtain ⟨s, hs', rfl⟩ := List.mem_map.1 h
    obtain ⟨h1, h2, h3⟩ := hs t ht
    rw [bs_size]
    have e : s.data.toList.length = s.size := rfl
    rw [e]
    unfold wordsT at hs'
    simp only [List.mem_cons, List.not_mem_nil, or_false] at hs'
    rcases hs' with rfl | rfl | rfl <;> omega
set_option maxRecDepth 100000 in
set_option maxHeartbeats 12800000 in
theorem rdQuery (B C g : Nat) (w : World) (h : Rd B w g) (v : Value) (ts : List Tri3) (ho : OwnT C w v ts) (hgC : g < C) (hs : SmG ts) :
    Calls Tryz.prog 64 #[.pointer (some ⟨g, 0, none⟩), v] w fun e w' => ∃ (a0 a1 a2 : Option Addr) (n0 n1 n2 c0 c1 c2 : Nat) (vs : List ByteArray) (t1 t2 : List Tri3), e = .returned (.agg #[.slice a0 n0 c0, .slice a1 n1 c1, .slice a2 n2 c2]) ∧ (vs.length ≤ 4 ∧ ∀ x ∈ vs, x.size ≤ 20) ∧ (t1.length ≤ 3 ∧ SmA t1) ∧ (t2.length ≤ 3 ∧ SmA t2) ∧
      OwnS w.heap.size w' (.slice a0 n0 c0) vs ∧ OwnT w.heap.size w' (.slice a1 n1 c1) t1 ∧ OwnT w.heap.size w' (.slice a2 n2 c2) t2 ∧ Rd B w' g ∧ w.grownBy w' (some g) := by
  obtain ⟨i0, hi, hz0, hzz, hzB⟩ := info_parts infoStr
  have hBg := h.1
  have hgw := h.2.1
  have O0 : Hid (Holds C w.heap.size w (OwnC C w.heap.size v ts)) := Lib.hid ⟨ownC_lives, Nat.le_refl _, ho, fun j hj => (World.ownsRow.lt ho j hj).2⟩
  have R0 := Lib.hid h
  have G0 : Hid (w.grownBy w (some g)) := Lib.hid (World.grownBy.refl w (some g))
  have HSG := Lib.hid hs
  clear h ho hs
  have O1 := Lib.hid (hold_off O0.out (World.grownBy_alloc w (.cells #[.slice none 0 0, .slice none 0 0, .slice none 0 0] 34) none) (fun j e => by cases e))
  have R1 := Lib.hid (Rd.grown R0.out (World.grownBy_alloc w (.cells #[.slice none 0 0, .slice none 0 0, .slice none 0 0] 34) none) (fun j e => by cases e))
  have G1 := Lib.hid (grown_into G0.out (World.grownBy_alloc w (.cells #[.slice none 0 0, .slice none 0 0, .slice none 0 0] 34) none) (fun j e => by cases e))
  clear O0 R0 G0
  have Y1 := Lib.hid (cells_new w #[.slice none 0 0, .slice none 0 0, .slice none 0 0] 34)
  have hz1 : (w.alloc (.cells #[.slice none 0 0, .slice none 0 0, .slice none 0 0] 34)).heap.size = w.heap.size + 1 := by simp
  go_enter Tryz.func64, Tryz.ntmps64
  go_wp2_with fail
  generalize (w.alloc (.cells #[.slice none 0 0, .slice none 0 0, .slice none 0 0] 34)) = W1 at O1 R1 G1 Y1 hz1 ⊢
  refine (rdAsked B C g _ R1.out v ts O1.out.now.1 hgC HSG.out).mono ?_
  rintro e w2 ⟨u1, t1, rfl, hl1, hs1, o1, r2, g2⟩
  have O2 := Lib.hid (hold_off O1.out (g2) (fun j e => by cases e; omega))
  have G2 := Lib.hid (grown_into G1.out (g2) (fun j e => by cases e; omega))
  have Y2 := Lib.hid (hold_off Y1.out (g2) (fun j e => by cases e; omega))
  clear O1 G1 Y1
  have R2 := Lib.hid (r2)
  have T2 := Lib.hid ((⟨ownC_lives, Nat.le_refl _, o1, fun j hj => (World.ownsRow.lt o1 j hj).2⟩ : Holds W1.heap.size w2.heap.size w2 (OwnC W1.heap.size w2.heap.size u1 t1)))
  obtain ⟨a1, c1, rfl, _⟩ := o1.is hs1.max
  obtain ⟨n1, hn1⟩ : ∃ n, t1.length = n := ⟨_, rfl⟩
  rw [hn1] at T2 hl1 ⊢
  have HN1 := Lib.hid hn1
  have HS1 := Lib.hid hs1
  obtain ⟨hl1a, hl1⟩ := hl1
  have hq5 : W1.heap.size ≤ w2.heap.size := g2.size
  clear g2 r2 o1 hs1 hn1 hl1a
  have O3 := Lib.hid (hold_off O2.out (World.grownBy_alloc w2 (.cells #[.slice none 0 0, .slice a1 n1 c1, .slice none 0 0] 34) none) (fun j e => by cases e))
  have R3 := Lib.hid (Rd.grown R2.out (World.grownBy_alloc w2 (.cells #[.slice none 0 0, .slice a1 n1 c1, .slice none 0 0] 34) none) (fun j e => by cases e))
  have G3 := Lib.hid (grown_into G2.out (World.grownBy_alloc w2 (.cells #[.slice none 0 0, .slice a1 n1 c1, .slice none 0 0] 34) none) (fun j e => by cases e))
  have Y3 := Lib.hid (hold_off Y2.out (World.grownBy_alloc w2 (.cells #[.slice none 0 0, .slice a1 n1 c1, .slice none 0 0] 34) none) (fun j e => by cases e))
  have T3 := Lib.hid (hold_off T2.out (World.grownBy_alloc w2 (.cells #[.slice none 0 0, .slice a1 n1 c1, .slice none 0 0] 34) none) (fun j e => by cases e))
  clear O2 R2 G2 Y2 T2
  have X3 := Lib.hid (cells_new w2 #[.slice none 0 0, .slice a1 n1 c1, .slice none 0 0] 34)
  have hz3 : (w2.alloc (.cells #[.slice none 0 0, .slice a1 n1 c1, .slice none 0 0] 34)).heap.size = w2.heap.size + 1 := by simp
  go_wp2_with fail
  generalize (w2.alloc (.cells #[.slice none 0 0, .slice a1 n1 c1, .slice none 0 0] 34)) = W3 at O3 R3 G3 Y3 T3 X3 hz3 ⊢
  generalize w2.heap.size = q5 at T3 X3 hq5 hz3 ⊢
  refine (rdOnce B g _ R3.out 3 (by omega) (by omega)).mono ?_
  rintro e w4 ⟨bb, rfl, r4, g4⟩
  have O4 := Lib.hid (hold_off O3.out (g4) (fun j e => by cases e; omega))
  have G4 := Lib.hid (grown_into G3.out (g4) (fun j e => by cases e; omega))
  have Y4 := Lib.hid (hold_off Y3.out (g4) (fun j e => by cases e; omega))
  have T4 := Lib.hid (hold_off T3.out (g4) (fun j e => by cases e; omega))
  have X4 := Lib.hid (hold_off X3.out (g4) (fun j e => by cases e; omega))
  clear O3 G3 Y3 T3 X3
  have R4 := Lib.hid (r4)
  have hz4 : W3.heap.size ≤ w4.heap.size := g4.size
  clear g4 r4
  cases bb
  focus
    go_wp2_with fail
    have U4 := Lib.hid ((⟨ownC_lives, by omega, World.ownsRow_nil .., fun j hj => by cases hj⟩ : Holds (q5 + 1) (q5 + 1) w4 (OwnC (q5 + 1) (q5 + 1) (.slice none 0 0) [])))
    obtain ⟨a2, n2, c2, t2, b2, d2, W5, hW5, hb2, hs2, hn2, X9, U9, O9, Y9, T9, R9, G9⟩ : ∃ a2 n2 c2 t2 b2 d2 W5, W5 = w4 ∧ q5 + 1 ≤ b2 ∧ (t2.length ≤ 3 ∧ SmA t2) ∧ t2.length = n2 ∧ Hid (Holds q5 (q5 + 1) W5 (Cells q5 #[.slice none 0 0, .slice a1 n1 c1, .slice a2 n2 c2] 34)) ∧ Hid (Holds b2 d2 W5 (OwnC b2 d2 (.slice a2 n2 c2) t2)) ∧ Hid (Holds C w.heap.size W5 (OwnC C w.heap.size v ts)) ∧ Hid (Holds w.heap.size (w.heap.size + 1) W5 (Cells w.heap.size #[.slice none 0 0, .slice none 0 0, .slice none 0 0] 34)) ∧ Hid (Holds W1.heap.size q5 W5 (OwnC W1.heap.size q5 (.slice a1 n1 c1) t1)) ∧ Hid (Rd B W5 g) ∧ Hid (w.grownBy W5 (some g)) := ⟨_, _, _, _, _, _, _, rfl, Nat.le_refl _, ⟨by simp, fun t ht => by simp at ht⟩, rfl, X4, U4, O4, Y4, T4, R4, G4⟩
    rw [← hW5]
    clear hW5 O4 R4 G4 Y4 T4 X4 U4
  rotate_left
  focus
    go_wp2_with fail
    refine (rdAsked B C g _ R4.out v ts O4.out.now.1 hgC HSG.out).mono ?_
    rintro e w5 ⟨u2, t2, rfl, hl2, hs2, o2, r5, g5⟩
    have O5 := Lib.hid (hold_off O4.out (g5) (fun j e => by cases e; omega))
    have G5 := Lib.hid (grown_into G4.out (g5) (fun j e => by cases e; omega))
    have Y5 := Lib.hid (hold_off Y4.out (g5) (fun j e => by cases e; omega))
    have T5 := Lib.hid (hold_off T4.out (g5) (fun j e => by cases e; omega))
    have X5 := Lib.hid (hold_off X4.out (g5) (fun j e => by cases e; omega))
    clear O4 G4 Y4 T4 X4
    have R5 := Lib.hid (r5)
    have U5 := Lib.hid ((⟨ownC_lives, Nat.le_refl _, o2, fun j hj => (World.ownsRow.lt o2 j hj).2⟩ : Holds w4.heap.size w5.heap.size w5 (OwnC w4.heap.size w5.heap.size u2 t2)))
    obtain ⟨a2, c2, rfl, _⟩ := o2.is hs2.max
    obtain ⟨n2, hn2⟩ : ∃ n, t2.length = n := ⟨_, rfl⟩
    have hsz2 := And.intro hl2.2 hs2
    rw [hn2] at U5 ⊢
    clear g5 r5 o2 hl2 hs2
    obtain ⟨x0, x1, x2⟩ := X5.out.now.tre
    obtain ⟨f0, f1, f2⟩ := X5.out.now.freeQ
    go_wp2_with fail
    clear x0 x1 x2 f0 f1 f2
    have O6 := Lib.hid (hold_off O5.out (grown_setQ w5 q5 2 (.slice a2 n2 c2)) (fun j e => by cases e; omega))
    have R6 := Lib.hid (Rd.grown R5.out (grown_setQ w5 q5 2 (.slice a2 n2 c2)) (fun j e => by cases e; omega))
    have G6 := Lib.hid (grown_into G5.out (grown_setQ w5 q5 2 (.slice a2 n2 c2)) (fun j e => by cases e; omega))
    have Y6 := Lib.hid (hold_off Y5.out (grown_setQ w5 q5 2 (.slice a2 n2 c2)) (fun j e => by cases e; omega))
    have T6 := Lib.hid (hold_off T5.out (grown_setQ w5 q5 2 (.slice a2 n2 c2)) (fun j e => by cases e; omega))
    have U6 := Lib.hid (hold_off U5.out (grown_setQ w5 q5 2 (.slice a2 n2 c2)) (fun j e => by cases e; omega))
    clear O5 R5 G5 Y5 T5 U5
    have X6 := Lib.hid (cells_setQ X5.out (.slice a2 n2 c2)).2.2
    clear X5
    generalize (w5.setCell ⟨q5, 2, none⟩ (.slice a2 n2 c2)) = wj at O6 R6 G6 Y6 T6 X6 U6 ⊢
    obtain ⟨a2, n2, c2, t2, b2, d2, W5, hW5, hb2, hs2, hn2, X9, U9, O9, Y9, T9, R9, G9⟩ : ∃ a2 n2 c2 t2 b2 d2 W5, W5 = wj ∧ q5 + 1 ≤ b2 ∧ (t2.length ≤ 3 ∧ SmA t2) ∧ t2.length = n2 ∧ Hid (Holds q5 (q5 + 1) W5 (Cells q5 #[.slice none 0 0, .slice a1 n1 c1, .slice a2 n2 c2] 34)) ∧ Hid (Holds b2 d2 W5 (OwnC b2 d2 (.slice a2 n2 c2) t2)) ∧ Hid (Holds C w.heap.size W5 (OwnC C w.heap.size v ts)) ∧ Hid (Holds w.heap.size (w.heap.size + 1) W5 (Cells w.heap.size #[.slice none 0 0, .slice none 0 0, .slice none 0 0] 34)) ∧ Hid (Holds W1.heap.size q5 W5 (OwnC W1.heap.size q5 (.slice a1 n1 c1) t1)) ∧ Hid (Rd B W5 g) ∧ Hid (w.grownBy W5 (some g)) := ⟨_, _, _, _, _, _, _, rfl, (by omega), hsz2, hn2, X6, U6, O6, Y6, T6, R6, G6⟩
    rw [← hW5]
    clear hW5 O6 R6 G6 Y6 T6 X6 U6
  all_goals
    have O10 := Lib.hid (hold_off O9.out (grownBy_drew (World.grownBy.refl W5 none)) (fun j e => by cases e))
    have Y10 := Lib.hid (hold_off Y9.out (grownBy_drew (World.grownBy.refl W5 none)) (fun j e => by cases e))
    have T10 := Lib.hid (hold_off T9.out (grownBy_drew (World.grownBy.refl W5 none)) (fun j e => by cases e))
    have R10 := Lib.hid (Rd.grown R9.out (grownBy_drew (World.grownBy.refl W5 none)) (fun j e => by cases e))
    have G10 := Lib.hid (grown_into G9.out (grownBy_drew (World.grownBy.refl W5 none)) (fun j e => by cases e))
    have X10 := Lib.hid (hold_off X9.out (grownBy_drew (World.grownBy.refl W5 none)) (fun j e => by cases e))
    have U10 := Lib.hid (hold_off U9.out (grownBy_drew (World.grownBy.refl W5 none)) (fun j e => by cases e))
    clear O9 Y9 T9 R9 G9 X9 U9
    refine wp_region_held_drew (S := (fun w' => w'.cell? ⟨q5, 0, none⟩ = some (.slice none 0 0) ∧ w'.cell? ⟨q5, 1, none⟩ = some (.slice a1 n1 c1) ∧ w'.cell? ⟨q5, 2, none⟩ = some (.slice a2 n2 c2))) (by kernel_rfl) ?_ (fun hHeld => ?_)
    · exact X10.out.now.tre
    generalize World.drew W5 = W0 at O10 Y10 T10 R10 G10 X10 U10 hHeld ⊢
    have IT1 : Hid (IsTris W0 a1 n1 c1 t1) := Lib.hid (OwnC.read T10.out.now (fun t ht => by have := HS1.out t ht; unfold maxLen; omega) HN1.out)
    have IT2 : Hid (IsTris W0 a2 n2 c2 t2) := Lib.hid (OwnC.read U10.out.now (fun t ht => by have := hs2.2 t ht; unfold maxLen; omega) hn2)
    have hn23 : n2 ≤ 3 := by rw [← hn2]; exact hs2.1
    refine wpAnyH_take (i := 1) (v := ?_) rfl (by kernel_rfl) (by kernel_rfl) (by kernel_rfl) (fun _ _ _ h => h) (Or.inl ⟨by kernel_rfl, ?_⟩) (by assumption) ?_
    rotate_left
    · intro w hSw; (try dsimp only at hSw); go_simp; try with_reducible rfl
    refine wpAnyH_take (i := 2) (v := ?_) rfl (by kernel_rfl) (by kernel_rfl) (by kernel_rfl) (fun _ _ _ h => h) (Or.inl ⟨by kernel_rfl, ?_⟩) (by assumption) ?_
    rotate_left
    · intro w hSw; (try dsimp only at hSw); go_simp; try with_reducible rfl
    refine wpAnyH_take (i := 4) (v := ?_) rfl (by kernel_rfl) (by kernel_rfl) (by kernel_rfl) (fun _ _ _ h => h) (Or.inl ⟨by kernel_rfl, ?_⟩) (by assumption) ?_
    rotate_left
    · intro w hSw; (try dsimp only at hSw); go_simp; try with_reducible rfl
    refine wpAnyH_take (i := 5) (v := ?_) rfl (by kernel_rfl) (by kernel_rfl) (by kernel_rfl) (fun _ _ _ h => h) (Or.inl ⟨by kernel_rfl, ?_⟩) (by assumption) ?_
    rotate_left
    · intro w hSw; (try dsimp only at hSw); go_simp; try with_reducible rfl
    refine wpAnyH_ready (rs := [0]) (by kernel_rfl) (by simp) ?_
    refine AllReadyH.cons rfl (fun K hK => ?_) AllReadyH.nil
    go_simp
    clear hHeld
    refine hK.out _ _ ?_ (fun hHeld => ?_)
    · exact (X10.out.alloc _).now.tre
    clear hK K
    have D1 := Lib.hid ((Below.refl W0.heap.size W0).alloc (Nat.le_refl _) (.cells #[] 65))
    have E1 : Hid (OwnT W0.heap.size (W0.alloc (.cells #[] 65)) (.slice (some ⟨W0.heap.size, 0, none⟩) 0 0) []) := Lib.hid (World.ownsRow_lit (size := 3) (e := 65) W0 #[] 0 (Nat.le_refl _) (by decide) rfl)
    refine wpAnyH_ready (rs := [3]) (by kernel_rfl) (by simp) ?_
    refine AllReadyH.cons rfl (fun K hK => ?_) AllReadyH.nil
    rw [if_pos (by rfl)]
    refine upon_moreT _ _ rfl rfl E1.out (by simp) (by simp) a1 n1 c1 t1 rfl (IT1.out.next D1.out) (by omega) ?_
    intro v1 u1 ho hg
    have D2 := Lib.hid (D1.out.grown hg D1.out.size (fun j hj => (World.ownsRow.lt E1.out j hj).1))
    have E2 : Hid (OwnT W0.heap.size u1 v1 ([] ++ t1)) := Lib.hid ho
    clear ho hg E1 D1
    clear hHeld
    refine hK.out _ _ ?_ (fun hHeld => ?_)
    · exact (X10.out.next D2.out).now.tre
    clear hK K
    refine wpAnyH_ready (rs := [6]) (by kernel_rfl) (by simp) ?_
    refine AllReadyH.cons rfl (fun K hK => ?_) AllReadyH.nil
    rw [if_pos (by rfl)]
    refine upon_moreT _ _ rfl rfl E2.out (by exact D2.out.size) (by rw [List.nil_append]; have := HN1.out; omega) a2 n2 c2 t2 rfl (IT2.out.next D2.out) (by omega) ?_
    intro v2 u2 ho hg
    have D3 := Lib.hid (D2.out.grown hg D2.out.size (fun j hj => (World.ownsRow.lt E2.out j hj).1))
    have E3 : Hid (OwnT W0.heap.size u2 v2 (([] ++ t1) ++ t2)) := Lib.hid ho
    clear ho hg E2 D2
    clear hHeld
    refine hK.out _ _ ?_ (fun hHeld => ?_)
    · exact (X10.out.next D3.out).now.tre
    clear hK K
    refine wpAnyH_ready (rs := [7]) (by kernel_rfl) (by simp) ?_
    refine AllReadyH.cons rfl (fun K hK => ?_) AllReadyH.nil
    go_simp
    have HSA : SmA (t1 ++ t2) := fun t ht => by rcases List.mem_append.1 ht with h | h; exact HS1.out t h; exact hs2.2 t h
    obtain ⟨ea, ec, rfl, ei⟩ := E3.out.is (fun t ht => by have := HSA t (by simpa using ht); unfold maxLen; omega)
    rw [List.nil_append] at ei ⊢
    have hLL : (t1 ++ t2).length ≤ 6 := by rw [List.length_append, hn2, HN1.out]; omega
    refine (specVars ea _ ec (t1 ++ t2) _ ei HSA.sm (by omega)).mono ?_
    rintro e u9 ⟨vg, vn, vc, rfl, ho, hvl, hb⟩
    have D4 := Lib.hid (D3.out.trans (hb.mono D3.out.size))
    have hz20 := allVars_20 HSA
    have HVL := Lib.hid hvl
    have ZZ : Hid (Holds u2.heap.size u9.heap.size u9 (OwnSC u2.heap.size u9.heap.size (.slice (some ⟨vg, 0, none⟩) vn vc) ((allVars (t1 ++ t2)).map bs))) := Lib.hid ⟨ownSC_lives, Nat.le_refl _, ho, fun j hj => (World.ownsRow.lt ho j hj).2⟩
    have hbz : W0.heap.size ≤ u2.heap.size := D3.out.size
    clear hb ho hvl D3 E3 ei hLL HSA
    go_wp2_with fail
    clear hHeld
    refine hK.out _ _ ?_ (fun hHeld => ?_)
    · exact (X10.out.next D4.out).now.tre
    clear hK K
    refine wpAnyH_take (i := 8) (v := ?_) rfl (by kernel_rfl) (by kernel_rfl) (by kernel_rfl) (fun _ _ _ h => h) (Or.inl ⟨by kernel_rfl, ?_⟩) (by assumption) ?_
    rotate_left
    · intro w hSw; (try dsimp only at hSw); go_simp; try with_reducible rfl
    refine wpAnyH_done (by kernel_rfl) ?_ _
    try simp only [Act.put, List.setIfInBounds_toArray, List.set_cons_zero, List.set_cons_succ, List.getElem_toArray, List.getElem_cons_zero, List.getElem_cons_succ]
    clear hHeld IT1 IT2
    have lx : q5 + 1 ≤ W0.heap.size := X10.out.le
    have ld : d2 ≤ W0.heap.size := U10.out.le
    have lt : q5 ≤ W0.heap.size := T10.out.le
    have l9 : W0.heap.size ≤ u9.heap.size := D4.out.size
    have lz : u2.heap.size ≤ u9.heap.size := by have := ZZ.out.le; exact Nat.le_of_not_lt fun h => by have := World.ownsRow.lt ZZ.out.now.1 vg rfl; omega
    clear O10
    have Y11 := Lib.hid (hold_off Y10.out (grown_of_below D4.out) (fun j e => by cases e))
    have T11 := Lib.hid (hold_off T10.out (grown_of_below D4.out) (fun j e => by cases e))
    have R11 := Lib.hid (Rd.grown R10.out (grown_of_below D4.out) (fun j e => by cases e))
    have G11 := Lib.hid (grown_into G10.out (grown_of_below D4.out) (fun j e => by cases e))
    have X11 := Lib.hid (hold_off X10.out (grown_of_below D4.out) (fun j e => by cases e))
    have U11 := Lib.hid (hold_off U10.out (grown_of_below D4.out) (fun j e => by cases e))
    clear Y10 T10 R10 G10 X10 U10
    have Z11 := ZZ
    clear ZZ D4
    have V11 : Hid (OwnS u9.heap.size u9 (.slice none 0 0) []) := Lib.hid (World.ownsRow_nil ..)
    have hWl := Nat.le_refl u9.heap.size
    obtain ⟨Wl, hwl⟩ : ∃ x, u9.heap.size = x := ⟨_, rfl⟩
    rw [hwl] at l9 lz Z11 V11
    have hWl : Wl ≤ u9.heap.size := Nat.le_of_eq hwl.symm
    have lq : w.heap.size + 1 ≤ q5 := by omega
    generalize u2.heap.size = bz at hbz lz Z11
    generalize W0.heap.size = w0 at lx ld lt l9 hbz
    clear hwl hz3 hz4 hn2 hn23
    go_wp2_with fail
    go_loopw [7] (fun i wr => ∃ (k : Nat) (a0 : Option Addr) (n0 c0 : Nat) (vs : List ByteArray), k ≤ 3 ∧ i = .int .i64 k ∧ vs.length ≤ k ∧ (∀ x ∈ vs, x.size ≤ 20) ∧ Wl ≤ wr.heap.size ∧ Hid (OwnS Wl wr (.slice a0 n0 c0) vs) ∧ Hid (Holds q5 (q5 + 1) wr (Cells q5 #[.slice a0 n0 c0, .slice a1 n1 c1, .slice a2 n2 c2] 34)) ∧ Hid (Holds b2 d2 wr (OwnC b2 d2 (.slice a2 n2 c2) t2)) ∧ Hid (Holds bz Wl wr (OwnSC bz Wl (.slice (some ⟨vg, 0, none⟩) vn vc) ((allVars (t1 ++ t2)).map bs))) ∧ Hid (Holds w.heap.size (w.heap.size + 1) wr (Cells w.heap.size #[.slice none 0 0, .slice none 0 0, .slice none 0 0] 34)) ∧ Hid (Holds W1.heap.size q5 wr (OwnC W1.heap.size q5 (.slice a1 n1 c1) t1)) ∧ Hid (Rd B wr g) ∧ Hid (w.grownBy wr (some g))) (fun i _ => 3 - (intOf i).toNat)
    case atStart => exact ⟨0, none, 0, 0, [], by omega, rfl, by simp, fun x hx => by simp at hx, hWl, V11, X11, U11, Z11, Y11, T11, R11, G11⟩
    case round =>
      obtain ⟨k, a0, n0, c0, vs, hk, rfl, hvk, hv20, hWr, V1, X1, U1, Z1, Y1, T1, R1, G1⟩ := hrel
      clear hWl V11 X11 U11 Z11 Y11 T11 R11 G11
      have hk6 : (0 : Int) ≤ (k : Int) := by omega
      have hvn : vs.length = n0 := by have h1 := V1.out; exact own_lenS h1
      have hvn3 : n0 ≤ 3 := by omega
      by_cases hkn : k < vn
      · by_cases hk3 : k < 3
        · by_cases hk0 : k = 0
          · subst hk0
            have hW9 := hWr
            have ZI := OwnSC.read Z1.out.now (by rw [List.length_map]; exact HVL.out)
            obtain ⟨zb, zo, hze, hzb, _, _, hzl, hzc⟩ := ZI.cells (by omega)
            cases hze
            have hzk : ((allVars (t1 ++ t2)).map bs)[0]? = some (((allVars (t1 ++ t2)).map bs)[0]'(by rw [List.length_map]; have := HVL.out; omega)) := List.getElem?_eq_getElem _
            have d0 := hzc 0 _ hzk
            have hx20 := hz20 _ (List.mem_of_getElem? hzk)
            generalize ((allVars (t1 ++ t2)).map bs)[0]'(by rw [List.length_map]; have := HVL.out; omega) = x at hzk d0 hx20
            rw [Nat.zero_add] at d0
            have d1 : wr.drew.cell? ⟨vg, 0, none⟩ = some (.string x) := d0
            have hkv : ((0 : Nat) : Int) < (vn : Int) := by omega
            clear ZI hzb hzl hzc hzk d0
            go_wp2_with fail
            have Y2 := Lib.hid (hold_off Y1.out (grownBy_drew (World.grownBy.refl wr none)) (fun j e => by cases e))
            have T2 := Lib.hid (hold_off T1.out (grownBy_drew (World.grownBy.refl wr none)) (fun j e => by cases e))
            have R2 := Lib.hid (Rd.grown R1.out (grownBy_drew (World.grownBy.refl wr none)) (fun j e => by cases e))
            have G2 := Lib.hid (grown_into G1.out (grownBy_drew (World.grownBy.refl wr none)) (fun j e => by cases e))
            have X2 := Lib.hid (hold_off X1.out (grownBy_drew (World.grownBy.refl wr none)) (fun j e => by cases e))
            have U2 := Lib.hid (hold_off U1.out (grownBy_drew (World.grownBy.refl wr none)) (fun j e => by cases e))
            have Z2 := Lib.hid (hold_off Z1.out (grownBy_drew (World.grownBy.refl wr none)) (fun j e => by cases e))
            have V2 := Lib.hid (ownS_off V1.out (grownBy_drew (World.grownBy.refl wr none)) (fun j e => by cases e))
            clear Y1 T1 R1 G1 X1 U1 Z1 V1
            have hWd : Wl ≤ wr.drew.heap.size := hW9
            refine wp_region_any (by kernel_rfl) ?_
            change wpAny _ _ _ _ _ _ _ (World.drew _)
            generalize World.drew wr = WD at Y2 T2 R2 G2 X2 U2 Z2 V2 d1 hWd ⊢
            refine wpAny_take (i := 0) (v := ?_) rfl (by kernel_rfl) (by kernel_rfl) (by kernel_rfl) (fun _ _ _ h => h) (Or.inl ⟨by kernel_rfl, ?_⟩) ?_
            rotate_left
            · intro w; go_simp; try with_reducible rfl
            refine wpAny_take (i := 2) (v := ?_) rfl (by kernel_rfl) (by kernel_rfl) (by kernel_rfl) (fun _ _ _ h => h) (Or.inl ⟨by kernel_rfl, ?_⟩) ?_
            rotate_left
            · intro w; go_simp; try with_reducible rfl
            refine wpAny_take (i := 3) (v := ?_) rfl (by kernel_rfl) (by kernel_rfl) (by kernel_rfl) (fun _ _ _ h => h) (Or.inl ⟨by kernel_rfl, ?_⟩) ?_
            rotate_left
            · intro w; go_simp; try with_reducible rfl
            refine wpAny_take (i := 4) (v := ?_) rfl (by kernel_rfl) (by kernel_rfl) (by kernel_rfl) (fun _ _ _ h => h) (Or.inl ⟨by kernel_rfl, ?_⟩) ?_
            rotate_left
            · intro w; go_simp; try with_reducible rfl
            refine wpAny_ready (rs := [1, 5]) (by kernel_rfl) (by simp) ?_
            refine (AllReady.cons rfl (fun K hK => ?_) (AllReady.cons rfl (fun K hK => ?_) AllReady.nil))
            focus
              obtain ⟨x0, x1, x2⟩ := X2.out.now.tre
              go_simp
              refine hK _ _ ?_
              clear hK K x0 x1 x2
              refine wpAny_ready (rs := [5]) (by kernel_rfl) (by simp) ?_
              refine (AllReady.cons rfl (fun K hK => ?_) AllReady.nil)
              go_simp
              refine hK _ _ ?_
              clear hK K
              refine wpAny_ready (rs := [6]) (by kernel_rfl) (by simp) ?_
              refine (AllReady.cons rfl (fun K hK => ?_) AllReady.nil)
              go_simp
              refine hK _ _ ?_
              clear hK K
              have OA := Lib.hid (World.ownsRow.alloc (by have h1 := V2.out; unfold OwnS at h1; rw [hvn] at h1; exact h1) (.cells #[.string x] 9))
              have HH := Lib.hid (one_cell (w := WD) (u := .string x) (e := 9))
              have hlt := fun q hq => (World.ownsRow.lt OA.out q hq).1
              have Y3 := Lib.hid (hold_off Y2.out (World.grownBy_alloc WD (.cells #[.string x] 9) none) (fun j e => by cases e))
              have T3 := Lib.hid (hold_off T2.out (World.grownBy_alloc WD (.cells #[.string x] 9) none) (fun j e => by cases e))
              have R3 := Lib.hid (Rd.grown R2.out (World.grownBy_alloc WD (.cells #[.string x] 9) none) (fun j e => by cases e))
              have G3 := Lib.hid (grown_into G2.out (World.grownBy_alloc WD (.cells #[.string x] 9) none) (fun j e => by cases e))
              have X3 := Lib.hid (hold_off X2.out (World.grownBy_alloc WD (.cells #[.string x] 9) none) (fun j e => by cases e))
              have U3 := Lib.hid (hold_off U2.out (World.grownBy_alloc WD (.cells #[.string x] 9) none) (fun j e => by cases e))
              have Z3 := Lib.hid (hold_off Z2.out (World.grownBy_alloc WD (.cells #[.string x] 9) none) (fun j e => by cases e))
              clear Y2
              clear T2
              clear R2
              clear G2
              clear X2
              clear U2
              clear Z2
              clear V2
              refine wpAny_ready (rs := [7]) (by kernel_rfl) (by simp) ?_
              refine (AllReady.cons rfl (fun K hK => ?_) AllReady.nil)
              rw [if_pos (by rfl)]
              refine upon_append_at rfl _ _ 23 rfl Wl 9 i0 (.string ⟨#[]⟩) 1 16 Tryz.underlying23 hi hz0 hzz hzB rfl (by decide) _ _ _ rfl OA.out ⟨WD.heap.size, 0, none⟩ 1 _ [.string x] rfl rfl HH.out (by intro z hz; simp at hz; subst hz; rfl) (by unfold maxLen; omega) (by omega) (by simp only [World.size_alloc]; omega) ?_
              intro v5 w5 hown5 hg5 _ _
              refine hK _ _ ?_
              clear hK K
              have HV5 : OwnS Wl w5 v5 (vs ++ [x]) := ownS_snoc (t := x) (by rw [hvn]; exact hown5)
              have Y4 := Lib.hid (hold_off Y3.out hg5 (fun j e => by have := hlt j e; omega))
              have T4 := Lib.hid (hold_off T3.out hg5 (fun j e => by have := hlt j e; omega))
              have R4 := Lib.hid (Rd.grown R3.out hg5 (fun j e => by have := hlt j e; omega))
              have G4 := Lib.hid (grown_into G3.out hg5 (fun j e => by have := hlt j e; omega))
              have X4 := Lib.hid (hold_off X3.out hg5 (fun j e => by have := hlt j e; omega))
              have U4 := Lib.hid (hold_off U3.out hg5 (fun j e => by have := hlt j e; omega))
              have Z4 := Lib.hid (hold_off Z3.out hg5 (fun j e => by have := hlt j e; omega))
              have hW5 : Wl ≤ w5.heap.size := by have := hg5.size; simp only [World.size_alloc] at this; omega
              have V4 := Lib.hid HV5
              obtain ⟨a5, n5, c5, rfl⟩ := own_sliceS HV5
              clear HV5 hown5 hg5 OA HH hlt
              clear Y3
              clear T3
              clear R3
              clear G3
              clear X3
              clear U3
              clear Z3
              refine wpAny_take (i := 8) (v := ?_) rfl (by kernel_rfl) (by kernel_rfl) (by kernel_rfl) (fun _ _ _ h => h) (Or.inl ⟨by kernel_rfl, ?_⟩) ?_
              rotate_left
              · intro w; go_simp; try with_reducible rfl
              refine wpAny_ready (rs := [9]) (by kernel_rfl) (by simp) ?_
              refine (AllReady.cons rfl (fun K hK => ?_) AllReady.nil)
              obtain ⟨x0, x1, x2⟩ := X4.out.now.tre
              obtain ⟨f0, f1, f2⟩ := X4.out.now.freeQ
              go_simp
              refine hK _ _ ?_
              clear hK K x0 x1 x2 f0 f1 f2
              have Y5 := Lib.hid (hold_off Y4.out (grown_setQ w5 q5 0 (.slice a5 n5 c5)) (fun j e => by cases e; omega))
              have T5 := Lib.hid (hold_off T4.out (grown_setQ w5 q5 0 (.slice a5 n5 c5)) (fun j e => by cases e; omega))
              have R5 := Lib.hid (Rd.grown R4.out (grown_setQ w5 q5 0 (.slice a5 n5 c5)) (fun j e => by cases e; omega))
              have G5 := Lib.hid (grown_into G4.out (grown_setQ w5 q5 0 (.slice a5 n5 c5)) (fun j e => by cases e; omega))
              have U5 := Lib.hid (hold_off U4.out (grown_setQ w5 q5 0 (.slice a5 n5 c5)) (fun j e => by cases e; omega))
              have Z5 := Lib.hid (hold_off Z4.out (grown_setQ w5 q5 0 (.slice a5 n5 c5)) (fun j e => by cases e; omega))
              have V5 := Lib.hid (ownS_off V4.out (grown_setQ w5 q5 0 (.slice a5 n5 c5)) (fun j e => by cases e; omega))
              clear Y4 T4 R4 G4 U4 Z4 V4
              have X5 := Lib.hid (cells_setQ X4.out (.slice a5 n5 c5)).1
              clear X4
              have hWs : Wl ≤ (w5.setCell ⟨q5, 0, none⟩ (.slice a5 n5 c5)).heap.size := by simpa [World.setCell] using hW5
              refine wpAny_done (by kernel_rfl) ?_ _
              try simp only [Act.put, List.setIfInBounds_toArray, List.set_cons_zero, List.set_cons_succ, List.getElem_toArray, List.getElem_cons_zero, List.getElem_cons_succ]
              clear d1
              generalize (w5.setCell ⟨q5, 0, none⟩ (.slice a5 n5 c5)) = ws at Y5 T5 R5 G5 X5 U5 Z5 V5 hWs ⊢
            rotate_left
            focus
              go_simp
              refine hK _ _ ?_
              clear hK K
              refine wpAny_ready (rs := [1, 6]) (by kernel_rfl) (by simp) ?_
              refine (AllReady.cons rfl (fun K hK => ?_) (AllReady.cons rfl (fun K hK => ?_) AllReady.nil))
              focus
                obtain ⟨x0, x1, x2⟩ := X2.out.now.tre
                go_simp
                refine hK _ _ ?_
                clear hK K x0 x1 x2
                refine wpAny_ready (rs := [6]) (by kernel_rfl) (by simp) ?_
                refine (AllReady.cons rfl (fun K hK => ?_) AllReady.nil)
                go_simp
                refine hK _ _ ?_
                clear hK K
                have OA := Lib.hid (World.ownsRow.alloc (by have h1 := V2.out; unfold OwnS at h1; rw [hvn] at h1; exact h1) (.cells #[.string x] 9))
                have HH := Lib.hid (one_cell (w := WD) (u := .string x) (e := 9))
                have hlt := fun q hq => (World.ownsRow.lt OA.out q hq).1
                have Y3 := Lib.hid (hold_off Y2.out (World.grownBy_alloc WD (.cells #[.string x] 9) none) (fun j e => by cases e))
                have T3 := Lib.hid (hold_off T2.out (World.grownBy_alloc WD (.cells #[.string x] 9) none) (fun j e => by cases e))
                have R3 := Lib.hid (Rd.grown R2.out (World.grownBy_alloc WD (.cells #[.string x] 9) none) (fun j e => by cases e))
                have G3 := Lib.hid (grown_into G2.out (World.grownBy_alloc WD (.cells #[.string x] 9) none) (fun j e => by cases e))
                have X3 := Lib.hid (hold_off X2.out (World.grownBy_alloc WD (.cells #[.string x] 9) none) (fun j e => by cases e))
                have U3 := Lib.hid (hold_off U2.out (World.grownBy_alloc WD (.cells #[.string x] 9) none) (fun j e => by cases e))
                have Z3 := Lib.hid (hold_off Z2.out (World.grownBy_alloc WD (.cells #[.string x] 9) none) (fun j e => by cases e))
                clear Y2
                clear T2
                clear R2
                clear G2
                clear X2
                clear U2
                clear Z2
                clear V2
                refine wpAny_ready (rs := [7]) (by kernel_rfl) (by simp) ?_
                refine (AllReady.cons rfl (fun K hK => ?_) AllReady.nil)
                rw [if_pos (by rfl)]
                refine upon_append_at rfl _ _ 23 rfl Wl 9 i0 (.string ⟨#[]⟩) 1 16 Tryz.underlying23 hi hz0 hzz hzB rfl (by decide) _ _ _ rfl OA.out ⟨WD.heap.size, 0, none⟩ 1 _ [.string x] rfl rfl HH.out (by intro z hz; simp at hz; subst hz; rfl) (by unfold maxLen; omega) (by omega) (by simp only [World.size_alloc]; omega) ?_
                intro v5 w5 hown5 hg5 _ _
                refine hK _ _ ?_
                clear hK K
                have HV5 : OwnS Wl w5 v5 (vs ++ [x]) := ownS_snoc (t := x) (by rw [hvn]; exact hown5)
                have Y4 := Lib.hid (hold_off Y3.out hg5 (fun j e => by have := hlt j e; omega))
                have T4 := Lib.hid (hold_off T3.out hg5 (fun j e => by have := hlt j e; omega))
                have R4 := Lib.hid (Rd.grown R3.out hg5 (fun j e => by have := hlt j e; omega))
                have G4 := Lib.hid (grown_into G3.out hg5 (fun j e => by have := hlt j e; omega))
                have X4 := Lib.hid (hold_off X3.out hg5 (fun j e => by have := hlt j e; omega))
                have U4 := Lib.hid (hold_off U3.out hg5 (fun j e => by have := hlt j e; omega))
                have Z4 := Lib.hid (hold_off Z3.out hg5 (fun j e => by have := hlt j e; omega))
                have hW5 : Wl ≤ w5.heap.size := by have := hg5.size; simp only [World.size_alloc] at this; omega
                have V4 := Lib.hid HV5
                obtain ⟨a5, n5, c5, rfl⟩ := own_sliceS HV5
                clear HV5 hown5 hg5 OA HH hlt
                clear Y3
                clear T3
                clear R3
                clear G3
                clear X3
                clear U3
                clear Z3
                refine wpAny_take (i := 8) (v := ?_) rfl (by kernel_rfl) (by kernel_rfl) (by kernel_rfl) (fun _ _ _ h => h) (Or.inl ⟨by kernel_rfl, ?_⟩) ?_
                rotate_left
                · intro w; go_simp; try with_reducible rfl
                refine wpAny_ready (rs := [9]) (by kernel_rfl) (by simp) ?_
                refine (AllReady.cons rfl (fun K hK => ?_) AllReady.nil)
                obtain ⟨x0, x1, x2⟩ := X4.out.now.tre
                obtain ⟨f0, f1, f2⟩ := X4.out.now.freeQ
                go_simp
                refine hK _ _ ?_
                clear hK K x0 x1 x2 f0 f1 f2
                have Y5 := Lib.hid (hold_off Y4.out (grown_setQ w5 q5 0 (.slice a5 n5 c5)) (fun j e => by cases e; omega))
                have T5 := Lib.hid (hold_off T4.out (grown_setQ w5 q5 0 (.slice a5 n5 c5)) (fun j e => by cases e; omega))
                have R5 := Lib.hid (Rd.grown R4.out (grown_setQ w5 q5 0 (.slice a5 n5 c5)) (fun j e => by cases e; omega))
                have G5 := Lib.hid (grown_into G4.out (grown_setQ w5 q5 0 (.slice a5 n5 c5)) (fun j e => by cases e; omega))
                have U5 := Lib.hid (hold_off U4.out (grown_setQ w5 q5 0 (.slice a5 n5 c5)) (fun j e => by cases e; omega))
                have Z5 := Lib.hid (hold_off Z4.out (grown_setQ w5 q5 0 (.slice a5 n5 c5)) (fun j e => by cases e; omega))
                have V5 := Lib.hid (ownS_off V4.out (grown_setQ w5 q5 0 (.slice a5 n5 c5)) (fun j e => by cases e; omega))
                clear Y4 T4 R4 G4 U4 Z4 V4
                have X5 := Lib.hid (cells_setQ X4.out (.slice a5 n5 c5)).1
                clear X4
                have hWs : Wl ≤ (w5.setCell ⟨q5, 0, none⟩ (.slice a5 n5 c5)).heap.size := by simpa [World.setCell] using hW5
                refine wpAny_done (by kernel_rfl) ?_ _
                try simp only [Act.put, List.setIfInBounds_toArray, List.set_cons_zero, List.set_cons_succ, List.getElem_toArray, List.getElem_cons_zero, List.getElem_cons_succ]
                clear d1
                generalize (w5.setCell ⟨q5, 0, none⟩ (.slice a5 n5 c5)) = ws at Y5 T5 R5 G5 X5 U5 Z5 V5 hWs ⊢
              rotate_left
              focus
                go_simp
                refine hK _ _ ?_
                clear hK K
                have OA := Lib.hid (World.ownsRow.alloc (by have h1 := V2.out; unfold OwnS at h1; rw [hvn] at h1; exact h1) (.cells #[.string x] 9))
                have HH := Lib.hid (one_cell (w := WD) (u := .string x) (e := 9))
                have hlt := fun q hq => (World.ownsRow.lt OA.out q hq).1
                have Y3 := Lib.hid (hold_off Y2.out (World.grownBy_alloc WD (.cells #[.string x] 9) none) (fun j e => by cases e))
                have T3 := Lib.hid (hold_off T2.out (World.grownBy_alloc WD (.cells #[.string x] 9) none) (fun j e => by cases e))
                have R3 := Lib.hid (Rd.grown R2.out (World.grownBy_alloc WD (.cells #[.string x] 9) none) (fun j e => by cases e))
                have G3 := Lib.hid (grown_into G2.out (World.grownBy_alloc WD (.cells #[.string x] 9) none) (fun j e => by cases e))
                have X3 := Lib.hid (hold_off X2.out (World.grownBy_alloc WD (.cells #[.string x] 9) none) (fun j e => by cases e))
                have U3 := Lib.hid (hold_off U2.out (World.grownBy_alloc WD (.cells #[.string x] 9) none) (fun j e => by cases e))
                have Z3 := Lib.hid (hold_off Z2.out (World.grownBy_alloc WD (.cells #[.string x] 9) none) (fun j e => by cases e))
                clear Y2
                clear T2
                clear R2
                clear G2
                clear X2
                clear U2
                clear Z2
                clear V2
                refine wpAny_ready (rs := [1]) (by kernel_rfl) (by simp) ?_
                refine (AllReady.cons rfl (fun K hK => ?_) AllReady.nil)
                obtain ⟨x0, x1, x2⟩ := X3.out.now.tre
                go_simp
                refine hK _ _ ?_
                clear hK K x0 x1 x2
                refine wpAny_ready (rs := [7]) (by kernel_rfl) (by simp) ?_
                refine (AllReady.cons rfl (fun K hK => ?_) AllReady.nil)
                rw [if_pos (by rfl)]
                refine upon_append_at rfl _ _ 23 rfl Wl 9 i0 (.string ⟨#[]⟩) 1 16 Tryz.underlying23 hi hz0 hzz hzB rfl (by decide) _ _ _ rfl OA.out ⟨WD.heap.size, 0, none⟩ 1 _ [.string x] rfl rfl HH.out (by intro z hz; simp at hz; subst hz; rfl) (by unfold maxLen; omega) (by omega) (by simp only [World.size_alloc]; omega) ?_
                intro v5 w5 hown5 hg5 _ _
                refine hK _ _ ?_
                clear hK K
                have HV5 : OwnS Wl w5 v5 (vs ++ [x]) := ownS_snoc (t := x) (by rw [hvn]; exact hown5)
                have Y4 := Lib.hid (hold_off Y3.out hg5 (fun j e => by have := hlt j e; omega))
                have T4 := Lib.hid (hold_off T3.out hg5 (fun j e => by have := hlt j e; omega))
                have R4 := Lib.hid (Rd.grown R3.out hg5 (fun j e => by have := hlt j e; omega))
                have G4 := Lib.hid (grown_into G3.out hg5 (fun j e => by have := hlt j e; omega))
                have X4 := Lib.hid (hold_off X3.out hg5 (fun j e => by have := hlt j e; omega))
                have U4 := Lib.hid (hold_off U3.out hg5 (fun j e => by have := hlt j e; omega))
                have Z4 := Lib.hid (hold_off Z3.out hg5 (fun j e => by have := hlt j e; omega))
                have hW5 : Wl ≤ w5.heap.size := by have := hg5.size; simp only [World.size_alloc] at this; omega
                have V4 := Lib.hid HV5
                obtain ⟨a5, n5, c5, rfl⟩ := own_sliceS HV5
                clear HV5 hown5 hg5 OA HH hlt
                clear Y3
                clear T3
                clear R3
                clear G3
                clear X3
                clear U3
                clear Z3
                refine wpAny_take (i := 8) (v := ?_) rfl (by kernel_rfl) (by kernel_rfl) (by kernel_rfl) (fun _ _ _ h => h) (Or.inl ⟨by kernel_rfl, ?_⟩) ?_
                rotate_left
                · intro w; go_simp; try with_reducible rfl
                refine wpAny_ready (rs := [9]) (by kernel_rfl) (by simp) ?_
                refine (AllReady.cons rfl (fun K hK => ?_) AllReady.nil)
                obtain ⟨x0, x1, x2⟩ := X4.out.now.tre
                obtain ⟨f0, f1, f2⟩ := X4.out.now.freeQ
                go_simp
                refine hK _ _ ?_
                clear hK K x0 x1 x2 f0 f1 f2
                have Y5 := Lib.hid (hold_off Y4.out (grown_setQ w5 q5 0 (.slice a5 n5 c5)) (fun j e => by cases e; omega))
                have T5 := Lib.hid (hold_off T4.out (grown_setQ w5 q5 0 (.slice a5 n5 c5)) (fun j e => by cases e; omega))
                have R5 := Lib.hid (Rd.grown R4.out (grown_setQ w5 q5 0 (.slice a5 n5 c5)) (fun j e => by cases e; omega))
                have G5 := Lib.hid (grown_into G4.out (grown_setQ w5 q5 0 (.slice a5 n5 c5)) (fun j e => by cases e; omega))
                have U5 := Lib.hid (hold_off U4.out (grown_setQ w5 q5 0 (.slice a5 n5 c5)) (fun j e => by cases e; omega))
                have Z5 := Lib.hid (hold_off Z4.out (grown_setQ w5 q5 0 (.slice a5 n5 c5)) (fun j e => by cases e; omega))
                have V5 := Lib.hid (ownS_off V4.out (grown_setQ w5 q5 0 (.slice a5 n5 c5)) (fun j e => by cases e; omega))
                clear Y4 T4 R4 G4 U4 Z4 V4
                have X5 := Lib.hid (cells_setQ X4.out (.slice a5 n5 c5)).1
                clear X4
                have hWs : Wl ≤ (w5.setCell ⟨q5, 0, none⟩ (.slice a5 n5 c5)).heap.size := by simpa [World.setCell] using hW5
                refine wpAny_done (by kernel_rfl) ?_ _
                try simp only [Act.put, List.setIfInBounds_toArray, List.set_cons_zero, List.set_cons_succ, List.getElem_toArray, List.getElem_cons_zero, List.getElem_cons_succ]
                clear d1
                generalize (w5.setCell ⟨q5, 0, none⟩ (.slice a5 n5 c5)) = ws at Y5 T5 R5 G5 X5 U5 Z5 V5 hWs ⊢
            all_goals
              go_wp2_with fail
              go_roundw
              case rel => exact ⟨0 + 1, a5, n5, c5, vs ++ [x], by omega, by go_num, by rw [List.length_append, List.length_singleton]; omega, fun y hy => by rcases List.mem_append.1 hy with h | h; exact hv20 y h; rw [List.mem_singleton.1 h]; exact hx20, hWs, V5, X5, U5, Z5, Y5, T5, R5, G5⟩
              case measure => first | (simp [intOf]; done) | (simp [intOf]; omega)
          · have hk1 : ¬ (k : Int) = 0 := by omega
            go_wp2_with fail
            refine (rdOnce B g _ R1.out 2 (by omega) (by omega)).mono ?_
            rintro e wa ⟨bb, rfl, ra, ga⟩
            have Y2 := Lib.hid (hold_off Y1.out (ga) (fun j e => by cases e; omega))
            have T2 := Lib.hid (hold_off T1.out (ga) (fun j e => by cases e; omega))
            have G2 := Lib.hid (grown_into G1.out (ga) (fun j e => by cases e; omega))
            have X2 := Lib.hid (hold_off X1.out (ga) (fun j e => by cases e; omega))
            have U2 := Lib.hid (hold_off U1.out (ga) (fun j e => by cases e; omega))
            have Z2 := Lib.hid (hold_off Z1.out (ga) (fun j e => by cases e; omega))
            have V2 := Lib.hid (ownS_off V1.out (ga) (fun j e => by cases e; omega))
            clear Y1 T1 G1 X1 U1 Z1 V1
            have R2 := Lib.hid (ra)
            have hW9 : Wl ≤ wa.heap.size := Nat.le_trans hWr ga.size
            clear ga ra hWr
            cases bb
            · go_wp2_with fail
              go_roundw
              case rel => exact ⟨k + 1, a0, n0, c0, vs, by omega, by go_num, by omega, hv20, hW9, V2, X2, U2, Z2, Y2, T2, R2, G2⟩
              case measure => simp [intOf]; omega
            · have ZI := OwnSC.read Z2.out.now (by rw [List.length_map]; exact HVL.out)
              obtain ⟨zb, zo, hze, hzb, _, _, hzl, hzc⟩ := ZI.cells (by omega)
              cases hze
              have hzk : ((allVars (t1 ++ t2)).map bs)[k]? = some (((allVars (t1 ++ t2)).map bs)[k]'(by rw [List.length_map]; have := HVL.out; omega)) := List.getElem?_eq_getElem _
              have d0 := hzc k _ hzk
              have hx20 := hz20 _ (List.mem_of_getElem? hzk)
              generalize ((allVars (t1 ++ t2)).map bs)[k]'(by rw [List.length_map]; have := HVL.out; omega) = x at hzk d0 hx20
              rw [Nat.zero_add] at d0
              have d1 : wa.drew.cell? ⟨vg, k, none⟩ = some (.string x) := d0
              have hkv : ((k : Nat) : Int) < (vn : Int) := by omega
              clear ZI hzb hzl hzc hzk d0
              go_wp2_with fail
              have Y3 := Lib.hid (hold_off Y2.out (grownBy_drew (World.grownBy.refl wa none)) (fun j e => by cases e))
              have T3 := Lib.hid (hold_off T2.out (grownBy_drew (World.grownBy.refl wa none)) (fun j e => by cases e))
              have R3 := Lib.hid (Rd.grown R2.out (grownBy_drew (World.grownBy.refl wa none)) (fun j e => by cases e))
              have G3 := Lib.hid (grown_into G2.out (grownBy_drew (World.grownBy.refl wa none)) (fun j e => by cases e))
              have X3 := Lib.hid (hold_off X2.out (grownBy_drew (World.grownBy.refl wa none)) (fun j e => by cases e))
              have U3 := Lib.hid (hold_off U2.out (grownBy_drew (World.grownBy.refl wa none)) (fun j e => by cases e))
              have Z3 := Lib.hid (hold_off Z2.out (grownBy_drew (World.grownBy.refl wa none)) (fun j e => by cases e))
              have V3 := Lib.hid (ownS_off V2.out (grownBy_drew (World.grownBy.refl wa none)) (fun j e => by cases e))
              clear Y2 T2 R2 G2 X2 U2 Z2 V2
              have hWd : Wl ≤ wa.drew.heap.size := hW9
              refine wp_region_any (by kernel_rfl) ?_
              change wpAny _ _ _ _ _ _ _ (World.drew _)
              generalize World.drew wa = WD at Y3 T3 R3 G3 X3 U3 Z3 V3 d1 hWd ⊢
              refine wpAny_take (i := 0) (v := ?_) rfl (by kernel_rfl) (by kernel_rfl) (by kernel_rfl) (fun _ _ _ h => h) (Or.inl ⟨by kernel_rfl, ?_⟩) ?_
              rotate_left
              · intro w; go_simp; try with_reducible rfl
              refine wpAny_take (i := 2) (v := ?_) rfl (by kernel_rfl) (by kernel_rfl) (by kernel_rfl) (fun _ _ _ h => h) (Or.inl ⟨by kernel_rfl, ?_⟩) ?_
              rotate_left
              · intro w; go_simp; try with_reducible rfl
              refine wpAny_take (i := 3) (v := ?_) rfl (by kernel_rfl) (by kernel_rfl) (by kernel_rfl) (fun _ _ _ h => h) (Or.inl ⟨by kernel_rfl, ?_⟩) ?_
              rotate_left
              · intro w; go_simp; try with_reducible rfl
              refine wpAny_take (i := 4) (v := ?_) rfl (by kernel_rfl) (by kernel_rfl) (by kernel_rfl) (fun _ _ _ h => h) (Or.inl ⟨by kernel_rfl, ?_⟩) ?_
              rotate_left
              · intro w; go_simp; try with_reducible rfl
              refine wpAny_ready (rs := [1, 5]) (by kernel_rfl) (by simp) ?_
              refine (AllReady.cons rfl (fun K hK => ?_) (AllReady.cons rfl (fun K hK => ?_) AllReady.nil))
              focus
                obtain ⟨x0, x1, x2⟩ := X3.out.now.tre
                go_simp
                refine hK _ _ ?_
                clear hK K x0 x1 x2
                refine wpAny_ready (rs := [5]) (by kernel_rfl) (by simp) ?_
                refine (AllReady.cons rfl (fun K hK => ?_) AllReady.nil)
                go_simp
                refine hK _ _ ?_
                clear hK K
                refine wpAny_ready (rs := [6]) (by kernel_rfl) (by simp) ?_
                refine (AllReady.cons rfl (fun K hK => ?_) AllReady.nil)
                go_simp
                refine hK _ _ ?_
                clear hK K
                have OA := Lib.hid (World.ownsRow.alloc (by have h1 := V3.out; unfold OwnS at h1; rw [hvn] at h1; exact h1) (.cells #[.string x] 9))
                have HH := Lib.hid (one_cell (w := WD) (u := .string x) (e := 9))
                have hlt := fun q hq => (World.ownsRow.lt OA.out q hq).1
                have Y4 := Lib.hid (hold_off Y3.out (World.grownBy_alloc WD (.cells #[.string x] 9) none) (fun j e => by cases e))
                have T4 := Lib.hid (hold_off T3.out (World.grownBy_alloc WD (.cells #[.string x] 9) none) (fun j e => by cases e))
                have R4 := Lib.hid (Rd.grown R3.out (World.grownBy_alloc WD (.cells #[.string x] 9) none) (fun j e => by cases e))
                have G4 := Lib.hid (grown_into G3.out (World.grownBy_alloc WD (.cells #[.string x] 9) none) (fun j e => by cases e))
                have X4 := Lib.hid (hold_off X3.out (World.grownBy_alloc WD (.cells #[.string x] 9) none) (fun j e => by cases e))
                have U4 := Lib.hid (hold_off U3.out (World.grownBy_alloc WD (.cells #[.string x] 9) none) (fun j e => by cases e))
                have Z4 := Lib.hid (hold_off Z3.out (World.grownBy_alloc WD (.cells #[.string x] 9) none) (fun j e => by cases e))
                clear Y3
                clear T3
                clear R3
                clear G3
                clear X3
                clear U3
                clear Z3
                clear V3
                refine wpAny_ready (rs := [7]) (by kernel_rfl) (by simp) ?_
                refine (AllReady.cons rfl (fun K hK => ?_) AllReady.nil)
                rw [if_pos (by rfl)]
                refine upon_append_at rfl _ _ 23 rfl Wl 9 i0 (.string ⟨#[]⟩) 1 16 Tryz.underlying23 hi hz0 hzz hzB rfl (by decide) _ _ _ rfl OA.out ⟨WD.heap.size, 0, none⟩ 1 _ [.string x] rfl rfl HH.out (by intro z hz; simp at hz; subst hz; rfl) (by unfold maxLen; omega) (by omega) (by simp only [World.size_alloc]; omega) ?_
                intro v5 w5 hown5 hg5 _ _
                refine hK _ _ ?_
                clear hK K
                have HV5 : OwnS Wl w5 v5 (vs ++ [x]) := ownS_snoc (t := x) (by rw [hvn]; exact hown5)
                have Y5 := Lib.hid (hold_off Y4.out hg5 (fun j e => by have := hlt j e; omega))
                have T5 := Lib.hid (hold_off T4.out hg5 (fun j e => by have := hlt j e; omega))
                have R5 := Lib.hid (Rd.grown R4.out hg5 (fun j e => by have := hlt j e; omega))
                have G5 := Lib.hid (grown_into G4.out hg5 (fun j e => by have := hlt j e; omega))
                have X5 := Lib.hid (hold_off X4.out hg5 (fun j e => by have := hlt j e; omega))
                have U5 := Lib.hid (hold_off U4.out hg5 (fun j e => by have := hlt j e; omega))
                have Z5 := Lib.hid (hold_off Z4.out hg5 (fun j e => by have := hlt j e; omega))
                have hW5 : Wl ≤ w5.heap.size := by have := hg5.size; simp only [World.size_alloc] at this; omega
                have V5 := Lib.hid HV5
                obtain ⟨a5, n5, c5, rfl⟩ := own_sliceS HV5
                clear HV5 hown5 hg5 OA HH hlt
                clear Y4
                clear T4
                clear R4
                clear G4
                clear X4
                clear U4
                clear Z4
                refine wpAny_take (i := 8) (v := ?_) rfl (by kernel_rfl) (by kernel_rfl) (by kernel_rfl) (fun _ _ _ h => h) (Or.inl ⟨by kernel_rfl, ?_⟩) ?_
                rotate_left
                · intro w; go_simp; try with_reducible rfl
                refine wpAny_ready (rs := [9]) (by kernel_rfl) (by simp) ?_
                refine (AllReady.cons rfl (fun K hK => ?_) AllReady.nil)
                obtain ⟨x0, x1, x2⟩ := X5.out.now.tre
                obtain ⟨f0, f1, f2⟩ := X5.out.now.freeQ
                go_simp
                refine hK _ _ ?_
                clear hK K x0 x1 x2 f0 f1 f2
                have Y6 := Lib.hid (hold_off Y5.out (grown_setQ w5 q5 0 (.slice a5 n5 c5)) (fun j e => by cases e; omega))
                have T6 := Lib.hid (hold_off T5.out (grown_setQ w5 q5 0 (.slice a5 n5 c5)) (fun j e => by cases e; omega))
                have R6 := Lib.hid (Rd.grown R5.out (grown_setQ w5 q5 0 (.slice a5 n5 c5)) (fun j e => by cases e; omega))
                have G6 := Lib.hid (grown_into G5.out (grown_setQ w5 q5 0 (.slice a5 n5 c5)) (fun j e => by cases e; omega))
                have U6 := Lib.hid (hold_off U5.out (grown_setQ w5 q5 0 (.slice a5 n5 c5)) (fun j e => by cases e; omega))
                have Z6 := Lib.hid (hold_off Z5.out (grown_setQ w5 q5 0 (.slice a5 n5 c5)) (fun j e => by cases e; omega))
                have V6 := Lib.hid (ownS_off V5.out (grown_setQ w5 q5 0 (.slice a5 n5 c5)) (fun j e => by cases e; omega))
                clear Y5 T5 R5 G5 U5 Z5 V5
                have X6 := Lib.hid (cells_setQ X5.out (.slice a5 n5 c5)).1
                clear X5
                have hWs : Wl ≤ (w5.setCell ⟨q5, 0, none⟩ (.slice a5 n5 c5)).heap.size := by simpa [World.setCell] using hW5
                refine wpAny_done (by kernel_rfl) ?_ _
                try simp only [Act.put, List.setIfInBounds_toArray, List.set_cons_zero, List.set_cons_succ, List.getElem_toArray, List.getElem_cons_zero, List.getElem_cons_succ]
                clear d1
                generalize (w5.setCell ⟨q5, 0, none⟩ (.slice a5 n5 c5)) = ws at Y6 T6 R6 G6 X6 U6 Z6 V6 hWs ⊢
              rotate_left
              focus
                go_simp
                refine hK _ _ ?_
                clear hK K
                refine wpAny_ready (rs := [1, 6]) (by kernel_rfl) (by simp) ?_
                refine (AllReady.cons rfl (fun K hK => ?_) (AllReady.cons rfl (fun K hK => ?_) AllReady.nil))
                focus
                  obtain ⟨x0, x1, x2⟩ := X3.out.now.tre
                  go_simp
                  refine hK _ _ ?_
                  clear hK K x0 x1 x2
                  refine wpAny_ready (rs := [6]) (by kernel_rfl) (by simp) ?_
                  refine (AllReady.cons rfl (fun K hK => ?_) AllReady.nil)
                  go_simp
                  refine hK _ _ ?_
                  clear hK K
                  have OA := Lib.hid (World.ownsRow.alloc (by have h1 := V3.out; unfold OwnS at h1; rw [hvn] at h1; exact h1) (.cells #[.string x] 9))
                  have HH := Lib.hid (one_cell (w := WD) (u := .string x) (e := 9))
                  have hlt := fun q hq => (World.ownsRow.lt OA.out q hq).1
                  have Y4 := Lib.hid (hold_off Y3.out (World.grownBy_alloc WD (.cells #[.string x] 9) none) (fun j e => by cases e))
                  have T4 := Lib.hid (hold_off T3.out (World.grownBy_alloc WD (.cells #[.string x] 9) none) (fun j e => by cases e))
                  have R4 := Lib.hid (Rd.grown R3.out (World.grownBy_alloc WD (.cells #[.string x] 9) none) (fun j e => by cases e))
                  have G4 := Lib.hid (grown_into G3.out (World.grownBy_alloc WD (.cells #[.string x] 9) none) (fun j e => by cases e))
                  have X4 := Lib.hid (hold_off X3.out (World.grownBy_alloc WD (.cells #[.string x] 9) none) (fun j e => by cases e))
                  have U4 := Lib.hid (hold_off U3.out (World.grownBy_alloc WD (.cells #[.string x] 9) none) (fun j e => by cases e))
                  have Z4 := Lib.hid (hold_off Z3.out (World.grownBy_alloc WD (.cells #[.string x] 9) none) (fun j e => by cases e))
                  clear Y3
                  clear T3
                  clear R3
                  clear G3
                  clear X3
                  clear U3
                  clear Z3
                  clear V3
                  refine wpAny_ready (rs := [7]) (by kernel_rfl) (by simp) ?_
                  refine (AllReady.cons rfl (fun K hK => ?_) AllReady.nil)
                  rw [if_pos (by rfl)]
                  refine upon_append_at rfl _ _ 23 rfl Wl 9 i0 (.string ⟨#[]⟩) 1 16 Tryz.underlying23 hi hz0 hzz hzB rfl (by decide) _ _ _ rfl OA.out ⟨WD.heap.size, 0, none⟩ 1 _ [.string x] rfl rfl HH.out (by intro z hz; simp at hz; subst hz; rfl) (by unfold maxLen; omega) (by omega) (by simp only [World.size_alloc]; omega) ?_
                  intro v5 w5 hown5 hg5 _ _
                  refine hK _ _ ?_
                  clear hK K
                  have HV5 : OwnS Wl w5 v5 (vs ++ [x]) := ownS_snoc (t := x) (by rw [hvn]; exact hown5)
                  have Y5 := Lib.hid (hold_off Y4.out hg5 (fun j e => by have := hlt j e; omega))
                  have T5 := Lib.hid (hold_off T4.out hg5 (fun j e => by have := hlt j e; omega))
                  have R5 := Lib.hid (Rd.grown R4.out hg5 (fun j e => by have := hlt j e; omega))
                  have G5 := Lib.hid (grown_into G4.out hg5 (fun j e => by have := hlt j e; omega))
                  have X5 := Lib.hid (hold_off X4.out hg5 (fun j e => by have := hlt j e; omega))
                  have U5 := Lib.hid (hold_off U4.out hg5 (fun j e => by have := hlt j e; omega))
                  have Z5 := Lib.hid (hold_off Z4.out hg5 (fun j e => by have := hlt j e; omega))
                  have hW5 : Wl ≤ w5.heap.size := by have := hg5.size; simp only [World.size_alloc] at this; omega
                  have V5 := Lib.hid HV5
                  obtain ⟨a5, n5, c5, rfl⟩ := own_sliceS HV5
                  clear HV5 hown5 hg5 OA HH hlt
                  clear Y4
                  clear T4
                  clear R4
                  clear G4
                  clear X4
                  clear U4
                  clear Z4
                  refine wpAny_take (i := 8) (v := ?_) rfl (by kernel_rfl) (by kernel_rfl) (by kernel_rfl) (fun _ _ _ h => h) (Or.inl ⟨by kernel_rfl, ?_⟩) ?_
                  rotate_left
                  · intro w; go_simp; try with_reducible rfl
                  refine wpAny_ready (rs := [9]) (by kernel_rfl) (by simp) ?_
                  refine (AllReady.cons rfl (fun K hK => ?_) AllReady.nil)
                  obtain ⟨x0, x1, x2⟩ := X5.out.now.tre
                  obtain ⟨f0, f1, f2⟩ := X5.out.now.freeQ
                  go_simp
                  refine hK _ _ ?_
                  clear hK K x0 x1 x2 f0 f1 f2
                  have Y6 := Lib.hid (hold_off Y5.out (grown_setQ w5 q5 0 (.slice a5 n5 c5)) (fun j e => by cases e; omega))
                  have T6 := Lib.hid (hold_off T5.out (grown_setQ w5 q5 0 (.slice a5 n5 c5)) (fun j e => by cases e; omega))
                  have R6 := Lib.hid (Rd.grown R5.out (grown_setQ w5 q5 0 (.slice a5 n5 c5)) (fun j e => by cases e; omega))
                  have G6 := Lib.hid (grown_into G5.out (grown_setQ w5 q5 0 (.slice a5 n5 c5)) (fun j e => by cases e; omega))
                  have U6 := Lib.hid (hold_off U5.out (grown_setQ w5 q5 0 (.slice a5 n5 c5)) (fun j e => by cases e; omega))
                  have Z6 := Lib.hid (hold_off Z5.out (grown_setQ w5 q5 0 (.slice a5 n5 c5)) (fun j e => by cases e; omega))
                  have V6 := Lib.hid (ownS_off V5.out (grown_setQ w5 q5 0 (.slice a5 n5 c5)) (fun j e => by cases e; omega))
                  clear Y5 T5 R5 G5 U5 Z5 V5
                  have X6 := Lib.hid (cells_setQ X5.out (.slice a5 n5 c5)).1
                  clear X5
                  have hWs : Wl ≤ (w5.setCell ⟨q5, 0, none⟩ (.slice a5 n5 c5)).heap.size := by simpa [World.setCell] using hW5
                  refine wpAny_done (by kernel_rfl) ?_ _
                  try simp only [Act.put, List.setIfInBounds_toArray, List.set_cons_zero, List.set_cons_succ, List.getElem_toArray, List.getElem_cons_zero, List.getElem_cons_succ]
                  clear d1
                  generalize (w5.setCell ⟨q5, 0, none⟩ (.slice a5 n5 c5)) = ws at Y6 T6 R6 G6 X6 U6 Z6 V6 hWs ⊢
                rotate_left
                focus
                  go_simp
                  refine hK _ _ ?_
                  clear hK K
                  have OA := Lib.hid (World.ownsRow.alloc (by have h1 := V3.out; unfold OwnS at h1; rw [hvn] at h1; exact h1) (.cells #[.string x] 9))
                  have HH := Lib.hid (one_cell (w := WD) (u := .string x) (e := 9))
                  have hlt := fun q hq => (World.ownsRow.lt OA.out q hq).1
                  have Y4 := Lib.hid (hold_off Y3.out (World.grownBy_alloc WD (.cells #[.string x] 9) none) (fun j e => by cases e))
                  have T4 := Lib.hid (hold_off T3.out (World.grownBy_alloc WD (.cells #[.string x] 9) none) (fun j e => by cases e))
                  have R4 := Lib.hid (Rd.grown R3.out (World.grownBy_alloc WD (.cells #[.string x] 9) none) (fun j e => by cases e))
                  have G4 := Lib.hid (grown_into G3.out (World.grownBy_alloc WD (.cells #[.string x] 9) none) (fun j e => by cases e))
                  have X4 := Lib.hid (hold_off X3.out (World.grownBy_alloc WD (.cells #[.string x] 9) none) (fun j e => by cases e))
                  have U4 := Lib.hid (hold_off U3.out (World.grownBy_alloc WD (.cells #[.string x] 9) none) (fun j e => by cases e))
                  have Z4 := Lib.hid (hold_off Z3.out (World.grownBy_alloc WD (.cells #[.string x] 9) none) (fun j e => by cases e))
                  clear Y3
                  clear T3
                  clear R3
                  clear G3
                  clear X3
                  clear U3
                  clear Z3
                  clear V3
                  refine wpAny_ready (rs := [1]) (by kernel_rfl) (by simp) ?_
                  refine (AllReady.cons rfl (fun K hK => ?_) AllReady.nil)
                  obtain ⟨x0, x1, x2⟩ := X4.out.now.tre
                  go_simp
                  refine hK _ _ ?_
                  clear hK K x0 x1 x2
                  refine wpAny_ready (rs := [7]) (by kernel_rfl) (by simp) ?_
                  refine (AllReady.cons rfl (fun K hK => ?_) AllReady.nil)
                  rw [if_pos (by rfl)]
                  refine upon_append_at rfl _ _ 23 rfl Wl 9 i0 (.string ⟨#[]⟩) 1 16 Tryz.underlying23 hi hz0 hzz hzB rfl (by decide) _ _ _ rfl OA.out ⟨WD.heap.size, 0, none⟩ 1 _ [.string x] rfl rfl HH.out (by intro z hz; simp at hz; subst hz; rfl) (by unfold maxLen; omega) (by omega) (by simp only [World.size_alloc]; omega) ?_
                  intro v5 w5 hown5 hg5 _ _
                  refine hK _ _ ?_
                  clear hK K
                  have HV5 : OwnS Wl w5 v5 (vs ++ [x]) := ownS_snoc (t := x) (by rw [hvn]; exact hown5)
                  have Y5 := Lib.hid (hold_off Y4.out hg5 (fun j e => by have := hlt j e; omega))
                  have T5 := Lib.hid (hold_off T4.out hg5 (fun j e => by have := hlt j e; omega))
                  have R5 := Lib.hid (Rd.grown R4.out hg5 (fun j e => by have := hlt j e; omega))
                  have G5 := Lib.hid (grown_into G4.out hg5 (fun j e => by have := hlt j e; omega))
                  have X5 := Lib.hid (hold_off X4.out hg5 (fun j e => by have := hlt j e; omega))
                  have U5 := Lib.hid (hold_off U4.out hg5 (fun j e => by have := hlt j e; omega))
                  have Z5 := Lib.hid (hold_off Z4.out hg5 (fun j e => by have := hlt j e; omega))
                  have hW5 : Wl ≤ w5.heap.size := by have := hg5.size; simp only [World.size_alloc] at this; omega
                  have V5 := Lib.hid HV5
                  obtain ⟨a5, n5, c5, rfl⟩ := own_sliceS HV5
                  clear HV5 hown5 hg5 OA HH hlt
                  clear Y4
                  clear T4
                  clear R4
                  clear G4
                  clear X4
                  clear U4
                  clear Z4
                  refine wpAny_take (i := 8) (v := ?_) rfl (by kernel_rfl) (by kernel_rfl) (by kernel_rfl) (fun _ _ _ h => h) (Or.inl ⟨by kernel_rfl, ?_⟩) ?_
                  rotate_left
                  · intro w; go_simp; try with_reducible rfl
                  refine wpAny_ready (rs := [9]) (by kernel_rfl) (by simp) ?_
                  refine (AllReady.cons rfl (fun K hK => ?_) AllReady.nil)
                  obtain ⟨x0, x1, x2⟩ := X5.out.now.tre
                  obtain ⟨f0, f1, f2⟩ := X5.out.now.freeQ
                  go_simp
                  refine hK _ _ ?_
                  clear hK K x0 x1 x2 f0 f1 f2
                  have Y6 := Lib.hid (hold_off Y5.out (grown_setQ w5 q5 0 (.slice a5 n5 c5)) (fun j e => by cases e; omega))
                  have T6 := Lib.hid (hold_off T5.out (grown_setQ w5 q5 0 (.slice a5 n5 c5)) (fun j e => by cases e; omega))
                  have R6 := Lib.hid (Rd.grown R5.out (grown_setQ w5 q5 0 (.slice a5 n5 c5)) (fun j e => by cases e; omega))
                  have G6 := Lib.hid (grown_into G5.out (grown_setQ w5 q5 0 (.slice a5 n5 c5)) (fun j e => by cases e; omega))
                  have U6 := Lib.hid (hold_off U5.out (grown_setQ w5 q5 0 (.slice a5 n5 c5)) (fun j e => by cases e; omega))
                  have Z6 := Lib.hid (hold_off Z5.out (grown_setQ w5 q5 0 (.slice a5 n5 c5)) (fun j e => by cases e; omega))
                  have V6 := Lib.hid (ownS_off V5.out (grown_setQ w5 q5 0 (.slice a5 n5 c5)) (fun j e => by cases e; omega))
                  clear Y5 T5 R5 G5 U5 Z5 V5
                  have X6 := Lib.hid (cells_setQ X5.out (.slice a5 n5 c5)).1
                  clear X5
                  have hWs : Wl ≤ (w5.setCell ⟨q5, 0, none⟩ (.slice a5 n5 c5)).heap.size := by simpa [World.setCell] using hW5
                  refine wpAny_done (by kernel_rfl) ?_ _
                  try simp only [Act.put, List.setIfInBounds_toArray, List.set_cons_zero, List.set_cons_succ, List.getElem_toArray, List.getElem_cons_zero, List.getElem_cons_succ]
                  clear d1
                  generalize (w5.setCell ⟨q5, 0, none⟩ (.slice a5 n5 c5)) = ws at Y6 T6 R6 G6 X6 U6 Z6 V6 hWs ⊢
              all_goals
                go_wp2_with fail
                go_roundw
                case rel => exact ⟨k + 1, a5, n5, c5, vs ++ [x], by omega, by go_num, by rw [List.length_append, List.length_singleton]; omega, fun y hy => by rcases List.mem_append.1 hy with h | h; exact hv20 y h; rw [List.mem_singleton.1 h]; exact hx20, hWs, V6, X6, U6, Z6, Y6, T6, R6, G6⟩
                case measure => first | (simp [intOf]; done) | (simp [intOf]; omega)
        · go_wp2_with fail
          refine (rdOnce B g _ R1.out 30 (by omega) (by omega)).mono ?_
          rintro e wa ⟨bb, rfl, ra, ga⟩
          have Y2 := Lib.hid (hold_off Y1.out (ga) (fun j e => by cases e; omega))
          have T2 := Lib.hid (hold_off T1.out (ga) (fun j e => by cases e; omega))
          have G2 := Lib.hid (grown_into G1.out (ga) (fun j e => by cases e; omega))
          have X2 := Lib.hid (hold_off X1.out (ga) (fun j e => by cases e; omega))
          have U2 := Lib.hid (hold_off U1.out (ga) (fun j e => by cases e; omega))
          have Z2 := Lib.hid (hold_off Z1.out (ga) (fun j e => by cases e; omega))
          have V2 := Lib.hid (ownS_off V1.out (ga) (fun j e => by cases e; omega))
          clear Y1 T1 G1 X1 U1 Z1 V1
          have R2 := Lib.hid (ra)
          have hWa : Wl ≤ wa.heap.size := Nat.le_trans hWr ga.size
          clear ga ra hWr
          cases bb
          · obtain ⟨x0, x1, x2⟩ := X2.out.now.tre
            obtain ⟨y0, y1, y2⟩ := Y2.out.now.tre
            obtain ⟨f0, f1, f2⟩ := Y2.out.now.freeQ
            go_wp2_with fail
            clear x0 x1 x2
            have T3 := Lib.hid (hold_off T2.out (grown_setQ wa w.heap.size 0 (.slice a0 n0 c0)) (fun j e => by cases e; omega))
            have R3 := Lib.hid (Rd.grown R2.out (grown_setQ wa w.heap.size 0 (.slice a0 n0 c0)) (fun j e => by cases e; omega))
            have G3 := Lib.hid (grown_into G2.out (grown_setQ wa w.heap.size 0 (.slice a0 n0 c0)) (fun j e => by cases e; omega))
            have X3 := Lib.hid (hold_off X2.out (grown_setQ wa w.heap.size 0 (.slice a0 n0 c0)) (fun j e => by cases e; omega))
            have U3 := Lib.hid (hold_off U2.out (grown_setQ wa w.heap.size 0 (.slice a0 n0 c0)) (fun j e => by cases e; omega))
            have Z3 := Lib.hid (hold_off Z2.out (grown_setQ wa w.heap.size 0 (.slice a0 n0 c0)) (fun j e => by cases e; omega))
            have V3 := Lib.hid (ownS_off V2.out (grown_setQ wa w.heap.size 0 (.slice a0 n0 c0)) (fun j e => by cases e; omega))
            clear T2 R2 G2 X2 U2 Z2 V2
            clear Y2
            have T4 := Lib.hid (hold_off T3.out (grown_setQ (wa.setCell ⟨w.heap.size, 0, none⟩ (.slice a0 n0 c0)) w.heap.size 1 (.slice a1 n1 c1)) (fun j e => by cases e; omega))
            have R4 := Lib.hid (Rd.grown R3.out (grown_setQ (wa.setCell ⟨w.heap.size, 0, none⟩ (.slice a0 n0 c0)) w.heap.size 1 (.slice a1 n1 c1)) (fun j e => by cases e; omega))
            have G4 := Lib.hid (grown_into G3.out (grown_setQ (wa.setCell ⟨w.heap.size, 0, none⟩ (.slice a0 n0 c0)) w.heap.size 1 (.slice a1 n1 c1)) (fun j e => by cases e; omega))
            have X4 := Lib.hid (hold_off X3.out (grown_setQ (wa.setCell ⟨w.heap.size, 0, none⟩ (.slice a0 n0 c0)) w.heap.size 1 (.slice a1 n1 c1)) (fun j e => by cases e; omega))
            have U4 := Lib.hid (hold_off U3.out (grown_setQ (wa.setCell ⟨w.heap.size, 0, none⟩ (.slice a0 n0 c0)) w.heap.size 1 (.slice a1 n1 c1)) (fun j e => by cases e; omega))
            have Z4 := Lib.hid (hold_off Z3.out (grown_setQ (wa.setCell ⟨w.heap.size, 0, none⟩ (.slice a0 n0 c0)) w.heap.size 1 (.slice a1 n1 c1)) (fun j e => by cases e; omega))
            have V4 := Lib.hid (ownS_off V3.out (grown_setQ (wa.setCell ⟨w.heap.size, 0, none⟩ (.slice a0 n0 c0)) w.heap.size 1 (.slice a1 n1 c1)) (fun j e => by cases e; omega))
            clear T3 R3 G3 X3 U3 Z3 V3
            have T5 := Lib.hid (hold_off T4.out (grown_setQ ((wa.setCell ⟨w.heap.size, 0, none⟩ (.slice a0 n0 c0)).setCell ⟨w.heap.size, 1, none⟩ (.slice a1 n1 c1)) w.heap.size 2 (.slice a2 n2 c2)) (fun j e => by cases e; omega))
            have R5 := Lib.hid (Rd.grown R4.out (grown_setQ ((wa.setCell ⟨w.heap.size, 0, none⟩ (.slice a0 n0 c0)).setCell ⟨w.heap.size, 1, none⟩ (.slice a1 n1 c1)) w.heap.size 2 (.slice a2 n2 c2)) (fun j e => by cases e; omega))
            have G5 := Lib.hid (grown_into G4.out (grown_setQ ((wa.setCell ⟨w.heap.size, 0, none⟩ (.slice a0 n0 c0)).setCell ⟨w.heap.size, 1, none⟩ (.slice a1 n1 c1)) w.heap.size 2 (.slice a2 n2 c2)) (fun j e => by cases e; omega))
            have X5 := Lib.hid (hold_off X4.out (grown_setQ ((wa.setCell ⟨w.heap.size, 0, none⟩ (.slice a0 n0 c0)).setCell ⟨w.heap.size, 1, none⟩ (.slice a1 n1 c1)) w.heap.size 2 (.slice a2 n2 c2)) (fun j e => by cases e; omega))
            have U5 := Lib.hid (hold_off U4.out (grown_setQ ((wa.setCell ⟨w.heap.size, 0, none⟩ (.slice a0 n0 c0)).setCell ⟨w.heap.size, 1, none⟩ (.slice a1 n1 c1)) w.heap.size 2 (.slice a2 n2 c2)) (fun j e => by cases e; omega))
            have Z5 := Lib.hid (hold_off Z4.out (grown_setQ ((wa.setCell ⟨w.heap.size, 0, none⟩ (.slice a0 n0 c0)).setCell ⟨w.heap.size, 1, none⟩ (.slice a1 n1 c1)) w.heap.size 2 (.slice a2 n2 c2)) (fun j e => by cases e; omega))
            have V5 := Lib.hid (ownS_off V4.out (grown_setQ ((wa.setCell ⟨w.heap.size, 0, none⟩ (.slice a0 n0 c0)).setCell ⟨w.heap.size, 1, none⟩ (.slice a1 n1 c1)) w.heap.size 2 (.slice a2 n2 c2)) (fun j e => by cases e; omega))
            clear T4 R4 G4 X4 U4 Z4 V4
            refine bodyPost_ret (v := .agg #[.slice a0 n0 c0, .slice a1 n1 c1, .slice a2 n2 c2]) (by simp [results, Tryz.results64, go_sem, *]) rfl ⟨a0, a1, a2, n0, n1, n2, c0, c1, c2, vs, t1, t2, rfl, ⟨by omega, fun x hx => hv20 x hx⟩, ⟨by rw [HN1.out]; exact hl1, HS1.out⟩, hs2, ownS_base V5.out (by omega), own_base T5.out.now.1 (by omega), own_base U5.out.now.1 (by omega), R5.out, G5.out⟩
          · obtain ⟨x0, x1, x2⟩ := X2.out.now.tre
            obtain ⟨f0, f1, f2⟩ := X2.out.now.freeQ
            have OA := Lib.hid (World.ownsRow.alloc (by have h1 := V2.out; unfold OwnS at h1; rw [hvn] at h1; exact h1) (.cells #[.string ⟨#[63, 110]⟩] 9))
            have HH := Lib.hid (one_cell (w := wa) (u := .string ⟨#[63, 110]⟩) (e := 9))
            have hlt := fun q hq => (World.ownsRow.lt OA.out q hq).1
            have Y3 := Lib.hid (hold_off Y2.out (World.grownBy_alloc wa (.cells #[.string ⟨#[63, 110]⟩] 9) none) (fun j e => by cases e))
            have T3 := Lib.hid (hold_off T2.out (World.grownBy_alloc wa (.cells #[.string ⟨#[63, 110]⟩] 9) none) (fun j e => by cases e))
            have R3 := Lib.hid (Rd.grown R2.out (World.grownBy_alloc wa (.cells #[.string ⟨#[63, 110]⟩] 9) none) (fun j e => by cases e))
            have G3 := Lib.hid (grown_into G2.out (World.grownBy_alloc wa (.cells #[.string ⟨#[63, 110]⟩] 9) none) (fun j e => by cases e))
            have X3 := Lib.hid (hold_off X2.out (World.grownBy_alloc wa (.cells #[.string ⟨#[63, 110]⟩] 9) none) (fun j e => by cases e))
            have U3 := Lib.hid (hold_off U2.out (World.grownBy_alloc wa (.cells #[.string ⟨#[63, 110]⟩] 9) none) (fun j e => by cases e))
            have Z3 := Lib.hid (hold_off Z2.out (World.grownBy_alloc wa (.cells #[.string ⟨#[63, 110]⟩] 9) none) (fun j e => by cases e))
            obtain ⟨y0, y1, y2⟩ := X3.out.now.tre
            go_wp2_with (at_builtin; refine wpList_append_own _ rfl _ _ 23 rfl Wl 9 i0 (.string ⟨#[]⟩) 1 16 Tryz.underlying23 hi hz0 hzz hzB rfl (by decide) _ _ _ rfl OA.out ⟨wa.heap.size, 0, none⟩ 1 _ [.string ⟨#[63, 110]⟩] rfl rfl HH.out (by intro z hz; simp at hz; subst hz; rfl) ?h63 ?h48 ?hbs ?_)
            case h63 => unfold maxLen; omega
            case h48 => omega
            case hbs => simp only [World.size_alloc]; omega
            intro v5 w5 hown5 hg5 _
            have HV5 : OwnS Wl w5 v5 (vs ++ [⟨#[63, 110]⟩]) := ownS_snoc (t := ⟨#[63, 110]⟩) (by rw [hvn]; exact hown5)
            have Y4 := Lib.hid (hold_off Y3.out hg5 (fun j e => by have := hlt j e; omega))
            have T4 := Lib.hid (hold_off T3.out hg5 (fun j e => by have := hlt j e; omega))
            have R4 := Lib.hid (Rd.grown R3.out hg5 (fun j e => by have := hlt j e; omega))
            have G4 := Lib.hid (grown_into G3.out hg5 (fun j e => by have := hlt j e; omega))
            have X4 := Lib.hid (hold_off X3.out hg5 (fun j e => by have := hlt j e; omega))
            have U4 := Lib.hid (hold_off U3.out hg5 (fun j e => by have := hlt j e; omega))
            have Z4 := Lib.hid (hold_off Z3.out hg5 (fun j e => by have := hlt j e; omega))
            have hW5 : Wl ≤ w5.heap.size := by have := hg5.size; simp only [World.size_alloc] at this; omega
            have V4 := Lib.hid HV5
            obtain ⟨a5, n5, c5, rfl⟩ := own_sliceS HV5
            clear HV5 hown5 hg5 OA HH hlt
            clear Y3
            clear T3
            clear R3
            clear G3
            clear X3
            clear U3
            clear Z3
            clear x0 x1 x2 f0 f1 f2 y0 y1 y2
            obtain ⟨x0, x1, x2⟩ := X4.out.now.tre
            obtain ⟨g0, g1, g2⟩ := X4.out.now.freeQ
            obtain ⟨y0, y1, y2⟩ := Y4.out.now.tre
            obtain ⟨f0, f1, f2⟩ := Y4.out.now.freeQ
            have hqw : ¬ q5 = w.heap.size := by omega
            have hqw2 : ¬ w.heap.size = q5 := by omega
            go_wp2_with fail
            have Y5 := Lib.hid (hold_off Y4.out (grown_setQ w5 q5 0 (.slice a5 n5 c5)) (fun j e => by cases e; omega))
            have T5 := Lib.hid (hold_off T4.out (grown_setQ w5 q5 0 (.slice a5 n5 c5)) (fun j e => by cases e; omega))
            have R5 := Lib.hid (Rd.grown R4.out (grown_setQ w5 q5 0 (.slice a5 n5 c5)) (fun j e => by cases e; omega))
            have G5 := Lib.hid (grown_into G4.out (grown_setQ w5 q5 0 (.slice a5 n5 c5)) (fun j e => by cases e; omega))
            have U5 := Lib.hid (hold_off U4.out (grown_setQ w5 q5 0 (.slice a5 n5 c5)) (fun j e => by cases e; omega))
            have Z5 := Lib.hid (hold_off Z4.out (grown_setQ w5 q5 0 (.slice a5 n5 c5)) (fun j e => by cases e; omega))
            have V5 := Lib.hid (ownS_off V4.out (grown_setQ w5 q5 0 (.slice a5 n5 c5)) (fun j e => by cases e; omega))
            clear Y4 T4 R4 G4 U4 Z4 V4
            have X5 := Lib.hid (cells_setQ X4.out (.slice a5 n5 c5)).1
            have hWs : Wl ≤ (w5.setCell ⟨q5, 0, none⟩ (.slice a5 n5 c5)).heap.size := by simpa [World.setCell] using hW5
            have T6 := Lib.hid (hold_off T5.out (grown_setQ (w5.setCell ⟨q5, 0, none⟩ (.slice a5 n5 c5)) w.heap.size 0 (.slice a5 n5 c5)) (fun j e => by cases e; omega))
            have R6 := Lib.hid (Rd.grown R5.out (grown_setQ (w5.setCell ⟨q5, 0, none⟩ (.slice a5 n5 c5)) w.heap.size 0 (.slice a5 n5 c5)) (fun j e => by cases e; omega))
            have G6 := Lib.hid (grown_into G5.out (grown_setQ (w5.setCell ⟨q5, 0, none⟩ (.slice a5 n5 c5)) w.heap.size 0 (.slice a5 n5 c5)) (fun j e => by cases e; omega))
            have X6 := Lib.hid (hold_off X5.out (grown_setQ (w5.setCell ⟨q5, 0, none⟩ (.slice a5 n5 c5)) w.heap.size 0 (.slice a5 n5 c5)) (fun j e => by cases e; omega))
            have U6 := Lib.hid (hold_off U5.out (grown_setQ (w5.setCell ⟨q5, 0, none⟩ (.slice a5 n5 c5)) w.heap.size 0 (.slice a5 n5 c5)) (fun j e => by cases e; omega))
            have Z6 := Lib.hid (hold_off Z5.out (grown_setQ (w5.setCell ⟨q5, 0, none⟩ (.slice a5 n5 c5)) w.heap.size 0 (.slice a5 n5 c5)) (fun j e => by cases e; omega))
            have V6 := Lib.hid (ownS_off V5.out (grown_setQ (w5.setCell ⟨q5, 0, none⟩ (.slice a5 n5 c5)) w.heap.size 0 (.slice a5 n5 c5)) (fun j e => by cases e; omega))
            clear T5 R5 G5 X5 U5 Z5 V5
            clear Y5
            have T7 := Lib.hid (hold_off T6.out (grown_setQ ((w5.setCell ⟨q5, 0, none⟩ (.slice a5 n5 c5)).setCell ⟨w.heap.size, 0, none⟩ (.slice a5 n5 c5)) w.heap.size 1 (.slice a1 n1 c1)) (fun j e => by cases e; omega))
            have R7 := Lib.hid (Rd.grown R6.out (grown_setQ ((w5.setCell ⟨q5, 0, none⟩ (.slice a5 n5 c5)).setCell ⟨w.heap.size, 0, none⟩ (.slice a5 n5 c5)) w.heap.size 1 (.slice a1 n1 c1)) (fun j e => by cases e; omega))
            have G7 := Lib.hid (grown_into G6.out (grown_setQ ((w5.setCell ⟨q5, 0, none⟩ (.slice a5 n5 c5)).setCell ⟨w.heap.size, 0, none⟩ (.slice a5 n5 c5)) w.heap.size 1 (.slice a1 n1 c1)) (fun j e => by cases e; omega))
            have X7 := Lib.hid (hold_off X6.out (grown_setQ ((w5.setCell ⟨q5, 0, none⟩ (.slice a5 n5 c5)).setCell ⟨w.heap.size, 0, none⟩ (.slice a5 n5 c5)) w.heap.size 1 (.slice a1 n1 c1)) (fun j e => by cases e; omega))
            have U7 := Lib.hid (hold_off U6.out (grown_setQ ((w5.setCell ⟨q5, 0, none⟩ (.slice a5 n5 c5)).setCell ⟨w.heap.size, 0, none⟩ (.slice a5 n5 c5)) w.heap.size 1 (.slice a1 n1 c1)) (fun j e => by cases e; omega))
            have Z7 := Lib.hid (hold_off Z6.out (grown_setQ ((w5.setCell ⟨q5, 0, none⟩ (.slice a5 n5 c5)).setCell ⟨w.heap.size, 0, none⟩ (.slice a5 n5 c5)) w.heap.size 1 (.slice a1 n1 c1)) (fun j e => by cases e; omega))
            have V7 := Lib.hid (ownS_off V6.out (grown_setQ ((w5.setCell ⟨q5, 0, none⟩ (.slice a5 n5 c5)).setCell ⟨w.heap.size, 0, none⟩ (.slice a5 n5 c5)) w.heap.size 1 (.slice a1 n1 c1)) (fun j e => by cases e; omega))
            clear T6 R6 G6 X6 U6 Z6 V6
            have T8 := Lib.hid (hold_off T7.out (grown_setQ (((w5.setCell ⟨q5, 0, none⟩ (.slice a5 n5 c5)).setCell ⟨w.heap.size, 0, none⟩ (.slice a5 n5 c5)).setCell ⟨w.heap.size, 1, none⟩ (.slice a1 n1 c1)) w.heap.size 2 (.slice a2 n2 c2)) (fun j e => by cases e; omega))
            have R8 := Lib.hid (Rd.grown R7.out (grown_setQ (((w5.setCell ⟨q5, 0, none⟩ (.slice a5 n5 c5)).setCell ⟨w.heap.size, 0, none⟩ (.slice a5 n5 c5)).setCell ⟨w.heap.size, 1, none⟩ (.slice a1 n1 c1)) w.heap.size 2 (.slice a2 n2 c2)) (fun j e => by cases e; omega))
            have G8 := Lib.hid (grown_into G7.out (grown_setQ (((w5.setCell ⟨q5, 0, none⟩ (.slice a5 n5 c5)).setCell ⟨w.heap.size, 0, none⟩ (.slice a5 n5 c5)).setCell ⟨w.heap.size, 1, none⟩ (.slice a1 n1 c1)) w.heap.size 2 (.slice a2 n2 c2)) (fun j e => by cases e; omega))
            have X8 := Lib.hid (hold_off X7.out (grown_setQ (((w5.setCell ⟨q5, 0, none⟩ (.slice a5 n5 c5)).setCell ⟨w.heap.size, 0, none⟩ (.slice a5 n5 c5)).setCell ⟨w.heap.size, 1, none⟩ (.slice a1 n1 c1)) w.heap.size 2 (.slice a2 n2 c2)) (fun j e => by cases e; omega))
            have U8 := Lib.hid (hold_off U7.out (grown_setQ (((w5.setCell ⟨q5, 0, none⟩ (.slice a5 n5 c5)).setCell ⟨w.heap.size, 0, none⟩ (.slice a5 n5 c5)).setCell ⟨w.heap.size, 1, none⟩ (.slice a1 n1 c1)) w.heap.size 2 (.slice a2 n2 c2)) (fun j e => by cases e; omega))
            have Z8 := Lib.hid (hold_off Z7.out (grown_setQ (((w5.setCell ⟨q5, 0, none⟩ (.slice a5 n5 c5)).setCell ⟨w.heap.size, 0, none⟩ (.slice a5 n5 c5)).setCell ⟨w.heap.size, 1, none⟩ (.slice a1 n1 c1)) w.heap.size 2 (.slice a2 n2 c2)) (fun j e => by cases e; omega))
            have V8 := Lib.hid (ownS_off V7.out (grown_setQ (((w5.setCell ⟨q5, 0, none⟩ (.slice a5 n5 c5)).setCell ⟨w.heap.size, 0, none⟩ (.slice a5 n5 c5)).setCell ⟨w.heap.size, 1, none⟩ (.slice a1 n1 c1)) w.heap.size 2 (.slice a2 n2 c2)) (fun j e => by cases e; omega))
            clear T7 R7 G7 X7 U7 Z7 V7
            refine bodyPost_ret (v := .agg #[.slice a5 n5 c5, .slice a1 n1 c1, .slice a2 n2 c2]) (by simp [results, Tryz.results64, go_sem, *]) rfl ⟨a5, a1, a2, n5, n1, n2, c5, c1, c2, (vs ++ [⟨#[63, 110]⟩]), t1, t2, rfl, ⟨by rw [List.length_append, List.length_singleton]; omega, fun x hx => by rcases List.mem_append.1 hx with h | h; exact hv20 x h; rw [List.mem_singleton.1 h]; decide⟩, ⟨by rw [HN1.out]; exact hl1, HS1.out⟩, hs2, ownS_base V8.out (by omega), own_base T8.out.now.1 (by omega), own_base U8.out.now.1 (by omega), R8.out, G8.out⟩
      · go_wp2_with fail
        refine (rdOnce B g _ R1.out 30 (by omega) (by omega)).mono ?_
        rintro e wa ⟨bb, rfl, ra, ga⟩
        have Y2 := Lib.hid (hold_off Y1.out (ga) (fun j e => by cases e; omega))
        have T2 := Lib.hid (hold_off T1.out (ga) (fun j e => by cases e; omega))
        have G2 := Lib.hid (grown_into G1.out (ga) (fun j e => by cases e; omega))
        have X2 := Lib.hid (hold_off X1.out (ga) (fun j e => by cases e; omega))
        have U2 := Lib.hid (hold_off U1.out (ga) (fun j e => by cases e; omega))
        have Z2 := Lib.hid (hold_off Z1.out (ga) (fun j e => by cases e; omega))
        have V2 := Lib.hid (ownS_off V1.out (ga) (fun j e => by cases e; omega))
        clear Y1 T1 G1 X1 U1 Z1 V1
        have R2 := Lib.hid (ra)
        have hWa : Wl ≤ wa.heap.size := Nat.le_trans hWr ga.size
        clear ga ra hWr
        cases bb
        · obtain ⟨x0, x1, x2⟩ := X2.out.now.tre
          obtain ⟨y0, y1, y2⟩ := Y2.out.now.tre
          obtain ⟨f0, f1, f2⟩ := Y2.out.now.freeQ
          go_wp2_with fail
          clear x0 x1 x2
          have T3 := Lib.hid (hold_off T2.out (grown_setQ wa w.heap.size 0 (.slice a0 n0 c0)) (fun j e => by cases e; omega))
          have R3 := Lib.hid (Rd.grown R2.out (grown_setQ wa w.heap.size 0 (.slice a0 n0 c0)) (fun j e => by cases e; omega))
          have G3 := Lib.hid (grown_into G2.out (grown_setQ wa w.heap.size 0 (.slice a0 n0 c0)) (fun j e => by cases e; omega))
          have X3 := Lib.hid (hold_off X2.out (grown_setQ wa w.heap.size 0 (.slice a0 n0 c0)) (fun j e => by cases e; omega))
          have U3 := Lib.hid (hold_off U2.out (grown_setQ wa w.heap.size 0 (.slice a0 n0 c0)) (fun j e => by cases e; omega))
          have Z3 := Lib.hid (hold_off Z2.out (grown_setQ wa w.heap.size 0 (.slice a0 n0 c0)) (fun j e => by cases e; omega))
          have V3 := Lib.hid (ownS_off V2.out (grown_setQ wa w.heap.size 0 (.slice a0 n0 c0)) (fun j e => by cases e; omega))
          clear T2 R2 G2 X2 U2 Z2 V2
          clear Y2
          have T4 := Lib.hid (hold_off T3.out (grown_setQ (wa.setCell ⟨w.heap.size, 0, none⟩ (.slice a0 n0 c0)) w.heap.size 1 (.slice a1 n1 c1)) (fun j e => by cases e; omega))
          have R4 := Lib.hid (Rd.grown R3.out (grown_setQ (wa.setCell ⟨w.heap.size, 0, none⟩ (.slice a0 n0 c0)) w.heap.size 1 (.slice a1 n1 c1)) (fun j e => by cases e; omega))
          have G4 := Lib.hid (grown_into G3.out (grown_setQ (wa.setCell ⟨w.heap.size, 0, none⟩ (.slice a0 n0 c0)) w.heap.size 1 (.slice a1 n1 c1)) (fun j e => by cases e; omega))
          have X4 := Lib.hid (hold_off X3.out (grown_setQ (wa.setCell ⟨w.heap.size, 0, none⟩ (.slice a0 n0 c0)) w.heap.size 1 (.slice a1 n1 c1)) (fun j e => by cases e; omega))
          have U4 := Lib.hid (hold_off U3.out (grown_setQ (wa.setCell ⟨w.heap.size, 0, none⟩ (.slice a0 n0 c0)) w.heap.size 1 (.slice a1 n1 c1)) (fun j e => by cases e; omega))
          have Z4 := Lib.hid (hold_off Z3.out (grown_setQ (wa.setCell ⟨w.heap.size, 0, none⟩ (.slice a0 n0 c0)) w.heap.size 1 (.slice a1 n1 c1)) (fun j e => by cases e; omega))
          have V4 := Lib.hid (ownS_off V3.out (grown_setQ (wa.setCell ⟨w.heap.size, 0, none⟩ (.slice a0 n0 c0)) w.heap.size 1 (.slice a1 n1 c1)) (fun j e => by cases e; omega))
          clear T3 R3 G3 X3 U3 Z3 V3
          have T5 := Lib.hid (hold_off T4.out (grown_setQ ((wa.setCell ⟨w.heap.size, 0, none⟩ (.slice a0 n0 c0)).setCell ⟨w.heap.size, 1, none⟩ (.slice a1 n1 c1)) w.heap.size 2 (.slice a2 n2 c2)) (fun j e => by cases e; omega))
          have R5 := Lib.hid (Rd.grown R4.out (grown_setQ ((wa.setCell ⟨w.heap.size, 0, none⟩ (.slice a0 n0 c0)).setCell ⟨w.heap.size, 1, none⟩ (.slice a1 n1 c1)) w.heap.size 2 (.slice a2 n2 c2)) (fun j e => by cases e; omega))
          have G5 := Lib.hid (grown_into G4.out (grown_setQ ((wa.setCell ⟨w.heap.size, 0, none⟩ (.slice a0 n0 c0)).setCell ⟨w.heap.size, 1, none⟩ (.slice a1 n1 c1)) w.heap.size 2 (.slice a2 n2 c2)) (fun j e => by cases e; omega))
          have X5 := Lib.hid (hold_off X4.out (grown_setQ ((wa.setCell ⟨w.heap.size, 0, none⟩ (.slice a0 n0 c0)).setCell ⟨w.heap.size, 1, none⟩ (.slice a1 n1 c1)) w.heap.size 2 (.slice a2 n2 c2)) (fun j e => by cases e; omega))
          have U5 := Lib.hid (hold_off U4.out (grown_setQ ((wa.setCell ⟨w.heap.size, 0, none⟩ (.slice a0 n0 c0)).setCell ⟨w.heap.size, 1, none⟩ (.slice a1 n1 c1)) w.heap.size 2 (.slice a2 n2 c2)) (fun j e => by cases e; omega))
          have Z5 := Lib.hid (hold_off Z4.out (grown_setQ ((wa.setCell ⟨w.heap.size, 0, none⟩ (.slice a0 n0 c0)).setCell ⟨w.heap.size, 1, none⟩ (.slice a1 n1 c1)) w.heap.size 2 (.slice a2 n2 c2)) (fun j e => by cases e; omega))
          have V5 := Lib.hid (ownS_off V4.out (grown_setQ ((wa.setCell ⟨w.heap.size, 0, none⟩ (.slice a0 n0 c0)).setCell ⟨w.heap.size, 1, none⟩ (.slice a1 n1 c1)) w.heap.size 2 (.slice a2 n2 c2)) (fun j e => by cases e; omega))
          clear T4 R4 G4 X4 U4 Z4 V4
          refine bodyPost_ret (v := .agg #[.slice a0 n0 c0, .slice a1 n1 c1, .slice a2 n2 c2]) (by simp [results, Tryz.results64, go_sem, *]) rfl ⟨a0, a1, a2, n0, n1, n2, c0, c1, c2, vs, t1, t2, rfl, ⟨by omega, fun x hx => hv20 x hx⟩, ⟨by rw [HN1.out]; exact hl1, HS1.out⟩, hs2, ownS_base V5.out (by omega), own_base T5.out.now.1 (by omega), own_base U5.out.now.1 (by omega), R5.out, G5.out⟩
        · obtain ⟨x0, x1, x2⟩ := X2.out.now.tre
          obtain ⟨f0, f1, f2⟩ := X2.out.now.freeQ
          have OA := Lib.hid (World.ownsRow.alloc (by have h1 := V2.out; unfold OwnS at h1; rw [hvn] at h1; exact h1) (.cells #[.string ⟨#[63, 110]⟩] 9))
          have HH := Lib.hid (one_cell (w := wa) (u := .string ⟨#[63, 110]⟩) (e := 9))
          have hlt := fun q hq => (World.ownsRow.lt OA.out q hq).1
          have Y3 := Lib.hid (hold_off Y2.out (World.grownBy_alloc wa (.cells #[.string ⟨#[63, 110]⟩] 9) none) (fun j e => by cases e))
          have T3 := Lib.hid (hold_off T2.out (World.grownBy_alloc wa (.cells #[.string ⟨#[63, 110]⟩] 9) none) (fun j e => by cases e))
          have R3 := Lib.hid (Rd.grown R2.out (World.grownBy_alloc wa (.cells #[.string ⟨#[63, 110]⟩] 9) none) (fun j e => by cases e))
          have G3 := Lib.hid (grown_into G2.out (World.grownBy_alloc wa (.cells #[.string ⟨#[63, 110]⟩] 9) none) (fun j e => by cases e))
          have X3 := Lib.hid (hold_off X2.out (World.grownBy_alloc wa (.cells #[.string ⟨#[63, 110]⟩] 9) none) (fun j e => by cases e))
          have U3 := Lib.hid (hold_off U2.out (World.grownBy_alloc wa (.cells #[.string ⟨#[63, 110]⟩] 9) none) (fun j e => by cases e))
          have Z3 := Lib.hid (hold_off Z2.out (World.grownBy_alloc wa (.cells #[.string ⟨#[63, 110]⟩] 9) none) (fun j e => by cases e))
          obtain ⟨y0, y1, y2⟩ := X3.out.now.tre
          go_wp2_with (at_builtin; refine wpList_append_own _ rfl _ _ 23 rfl Wl 9 i0 (.string ⟨#[]⟩) 1 16 Tryz.underlying23 hi hz0 hzz hzB rfl (by decide) _ _ _ rfl OA.out ⟨wa.heap.size, 0, none⟩ 1 _ [.string ⟨#[63, 110]⟩] rfl rfl HH.out (by intro z hz; simp at hz; subst hz; rfl) ?h63 ?h48 ?hbs ?_)
          case h63 => unfold maxLen; omega
          case h48 => omega
          case hbs => simp only [World.size_alloc]; omega
          intro v5 w5 hown5 hg5 _
          have HV5 : OwnS Wl w5 v5 (vs ++ [⟨#[63, 110]⟩]) := ownS_snoc (t := ⟨#[63, 110]⟩) (by rw [hvn]; exact hown5)
          have Y4 := Lib.hid (hold_off Y3.out hg5 (fun j e => by have := hlt j e; omega))
          have T4 := Lib.hid (hold_off T3.out hg5 (fun j e => by have := hlt j e; omega))
          have R4 := Lib.hid (Rd.grown R3.out hg5 (fun j e => by have := hlt j e; omega))
          have G4 := Lib.hid (grown_into G3.out hg5 (fun j e => by have := hlt j e; omega))
          have X4 := Lib.hid (hold_off X3.out hg5 (fun j e => by have := hlt j e; omega))
          have U4 := Lib.hid (hold_off U3.out hg5 (fun j e => by have := hlt j e; omega))
          have Z4 := Lib.hid (hold_off Z3.out hg5 (fun j e => by have := hlt j e; omega))
          have hW5 : Wl ≤ w5.heap.size := by have := hg5.size; simp only [World.size_alloc] at this; omega
          have V4 := Lib.hid HV5
          obtain ⟨a5, n5, c5, rfl⟩ := own_sliceS HV5
          clear HV5 hown5 hg5 OA HH hlt
          clear Y3
          clear T3
          clear R3
          clear G3
          clear X3
          clear U3
          clear Z3
          clear x0 x1 x2 f0 f1 f2 y0 y1 y2
          obtain ⟨x0, x1, x2⟩ := X4.out.now.tre
          obtain ⟨g0, g1, g2⟩ := X4.out.now.freeQ
          obtain ⟨y0, y1, y2⟩ := Y4.out.now.tre
          obtain ⟨f0, f1, f2⟩ := Y4.out.now.freeQ
          have hqw : ¬ q5 = w.heap.size := by omega
          have hqw2 : ¬ w.heap.size = q5 := by omega
          go_wp2_with fail
          have Y5 := Lib.hid (hold_off Y4.out (grown_setQ w5 q5 0 (.slice a5 n5 c5)) (fun j e => by cases e; omega))
          have T5 := Lib.hid (hold_off T4.out (grown_setQ w5 q5 0 (.slice a5 n5 c5)) (fun j e => by cases e; omega))
          have R5 := Lib.hid (Rd.grown R4.out (grown_setQ w5 q5 0 (.slice a5 n5 c5)) (fun j e => by cases e; omega))
          have G5 := Lib.hid (grown_into G4.out (grown_setQ w5 q5 0 (.slice a5 n5 c5)) (fun j e => by cases e; omega))
          have U5 := Lib.hid (hold_off U4.out (grown_setQ w5 q5 0 (.slice a5 n5 c5)) (fun j e => by cases e; omega))
          have Z5 := Lib.hid (hold_off Z4.out (grown_setQ w5 q5 0 (.slice a5 n5 c5)) (fun j e => by cases e; omega))
          have V5 := Lib.hid (ownS_off V4.out (grown_setQ w5 q5 0 (.slice a5 n5 c5)) (fun j e => by cases e; omega))
          clear Y4 T4 R4 G4 U4 Z4 V4
          have X5 := Lib.hid (cells_setQ X4.out (.slice a5 n5 c5)).1
          have hWs : Wl ≤ (w5.setCell ⟨q5, 0, none⟩ (.slice a5 n5 c5)).heap.size := by simpa [World.setCell] using hW5
          have T6 := Lib.hid (hold_off T5.out (grown_setQ (w5.setCell ⟨q5, 0, none⟩ (.slice a5 n5 c5)) w.heap.size 0 (.slice a5 n5 c5)) (fun j e => by cases e; omega))
          have R6 := Lib.hid (Rd.grown R5.out (grown_setQ (w5.setCell ⟨q5, 0, none⟩ (.slice a5 n5 c5)) w.heap.size 0 (.slice a5 n5 c5)) (fun j e => by cases e; omega))
          have G6 := Lib.hid (grown_into G5.out (grown_setQ (w5.setCell ⟨q5, 0, none⟩ (.slice a5 n5 c5)) w.heap.size 0 (.slice a5 n5 c5)) (fun j e => by cases e; omega))
          have X6 := Lib.hid (hold_off X5.out (grown_setQ (w5.setCell ⟨q5, 0, none⟩ (.slice a5 n5 c5)) w.heap.size 0 (.slice a5 n5 c5)) (fun j e => by cases e; omega))
          have U6 := Lib.hid (hold_off U5.out (grown_setQ (w5.setCell ⟨q5, 0, none⟩ (.slice a5 n5 c5)) w.heap.size 0 (.slice a5 n5 c5)) (fun j e => by cases e; omega))
          have Z6 := Lib.hid (hold_off Z5.out (grown_setQ (w5.setCell ⟨q5, 0, none⟩ (.slice a5 n5 c5)) w.heap.size 0 (.slice a5 n5 c5)) (fun j e => by cases e; omega))
          have V6 := Lib.hid (ownS_off V5.out (grown_setQ (w5.setCell ⟨q5, 0, none⟩ (.slice a5 n5 c5)) w.heap.size 0 (.slice a5 n5 c5)) (fun j e => by cases e; omega))
          clear T5 R5 G5 X5 U5 Z5 V5
          clear Y5
          have T7 := Lib.hid (hold_off T6.out (grown_setQ ((w5.setCell ⟨q5, 0, none⟩ (.slice a5 n5 c5)).setCell ⟨w.heap.size, 0, none⟩ (.slice a5 n5 c5)) w.heap.size 1 (.slice a1 n1 c1)) (fun j e => by cases e; omega))
          have R7 := Lib.hid (Rd.grown R6.out (grown_setQ ((w5.setCell ⟨q5, 0, none⟩ (.slice a5 n5 c5)).setCell ⟨w.heap.size, 0, none⟩ (.slice a5 n5 c5)) w.heap.size 1 (.slice a1 n1 c1)) (fun j e => by cases e; omega))
          have G7 := Lib.hid (grown_into G6.out (grown_setQ ((w5.setCell ⟨q5, 0, none⟩ (.slice a5 n5 c5)).setCell ⟨w.heap.size, 0, none⟩ (.slice a5 n5 c5)) w.heap.size 1 (.slice a1 n1 c1)) (fun j e => by cases e; omega))
          have X7 := Lib.hid (hold_off X6.out (grown_setQ ((w5.setCell ⟨q5, 0, none⟩ (.slice a5 n5 c5)).setCell ⟨w.heap.size, 0, none⟩ (.slice a5 n5 c5)) w.heap.size 1 (.slice a1 n1 c1)) (fun j e => by cases e; omega))
          have U7 := Lib.hid (hold_off U6.out (grown_setQ ((w5.setCell ⟨q5, 0, none⟩ (.slice a5 n5 c5)).setCell ⟨w.heap.size, 0, none⟩ (.slice a5 n5 c5)) w.heap.size 1 (.slice a1 n1 c1)) (fun j e => by cases e; omega))
          have Z7 := Lib.hid (hold_off Z6.out (grown_setQ ((w5.setCell ⟨q5, 0, none⟩ (.slice a5 n5 c5)).setCell ⟨w.heap.size, 0, none⟩ (.slice a5 n5 c5)) w.heap.size 1 (.slice a1 n1 c1)) (fun j e => by cases e; omega))
          have V7 := Lib.hid (ownS_off V6.out (grown_setQ ((w5.setCell ⟨q5, 0, none⟩ (.slice a5 n5 c5)).setCell ⟨w.heap.size, 0, none⟩ (.slice a5 n5 c5)) w.heap.size 1 (.slice a1 n1 c1)) (fun j e => by cases e; omega))
          clear T6 R6 G6 X6 U6 Z6 V6
          have T8 := Lib.hid (hold_off T7.out (grown_setQ (((w5.setCell ⟨q5, 0, none⟩ (.slice a5 n5 c5)).setCell ⟨w.heap.size, 0, none⟩ (.slice a5 n5 c5)).setCell ⟨w.heap.size, 1, none⟩ (.slice a1 n1 c1)) w.heap.size 2 (.slice a2 n2 c2)) (fun j e => by cases e; omega))
          have R8 := Lib.hid (Rd.grown R7.out (grown_setQ (((w5.setCell ⟨q5, 0, none⟩ (.slice a5 n5 c5)).setCell ⟨w.heap.size, 0, none⟩ (.slice a5 n5 c5)).setCell ⟨w.heap.size, 1, none⟩ (.slice a1 n1 c1)) w.heap.size 2 (.slice a2 n2 c2)) (fun j e => by cases e; omega))
          have G8 := Lib.hid (grown_into G7.out (grown_setQ (((w5.setCell ⟨q5, 0, none⟩ (.slice a5 n5 c5)).setCell ⟨w.heap.size, 0, none⟩ (.slice a5 n5 c5)).setCell ⟨w.heap.size, 1, none⟩ (.slice a1 n1 c1)) w.heap.size 2 (.slice a2 n2 c2)) (fun j e => by cases e; omega))
          have X8 := Lib.hid (hold_off X7.out (grown_setQ (((w5.setCell ⟨q5, 0, none⟩ (.slice a5 n5 c5)).setCell ⟨w.heap.size, 0, none⟩ (.slice a5 n5 c5)).setCell ⟨w.heap.size, 1, none⟩ (.slice a1 n1 c1)) w.heap.size 2 (.slice a2 n2 c2)) (fun j e => by cases e; omega))
          have U8 := Lib.hid (hold_off U7.out (grown_setQ (((w5.setCell ⟨q5, 0, none⟩ (.slice a5 n5 c5)).setCell ⟨w.heap.size, 0, none⟩ (.slice a5 n5 c5)).setCell ⟨w.heap.size, 1, none⟩ (.slice a1 n1 c1)) w.heap.size 2 (.slice a2 n2 c2)) (fun j e => by cases e; omega))
          have Z8 := Lib.hid (hold_off Z7.out (grown_setQ (((w5.setCell ⟨q5, 0, none⟩ (.slice a5 n5 c5)).setCell ⟨w.heap.size, 0, none⟩ (.slice a5 n5 c5)).setCell ⟨w.heap.size, 1, none⟩ (.slice a1 n1 c1)) w.heap.size 2 (.slice a2 n2 c2)) (fun j e => by cases e; omega))
          have V8 := Lib.hid (ownS_off V7.out (grown_setQ (((w5.setCell ⟨q5, 0, none⟩ (.slice a5 n5 c5)).setCell ⟨w.heap.size, 0, none⟩ (.slice a5 n5 c5)).setCell ⟨w.heap.size, 1, none⟩ (.slice a1 n1 c1)) w.heap.size 2 (.slice a2 n2 c2)) (fun j e => by cases e; omega))
          clear T7 R7 G7 X7 U7 Z7 V7
          refine bodyPost_ret (v := .agg #[.slice a5 n5 c5, .slice a1 n1 c1, .slice a2 n2 c2]) (by simp [results, Tryz.results64, go_sem, *]) rfl ⟨a5, a1, a2, n5, n1, n2, c5, c1, c2, (vs ++ [⟨#[63, 110]⟩]), t1, t2, rfl, ⟨by rw [List.length_append, List.length_singleton]; omega, fun x hx => by rcases List.mem_append.1 hx with h | h; exact hv20 x h; rw [List.mem_singleton.1 h]; decide⟩, ⟨by rw [HN1.out]; exact hl1, HS1.out⟩, hs2, ownS_base V8.out (by omega), own_base T8.out.now.1 (by omega), own_base U8.out.now.1 (by omega), R8.out, G8.out⟩
end Go.Proofs.YtiajdnhmjdfeeaaGreat
namespace Go.Proofs.YtiajdnhmjdfeeaaGreat
open Go.RowKit
def triText (s p o : List UInt8) : List UInt8 := if triOk s p o then s ++ 32 :: (p ++ 32 :: (o ++ [32, 46])) else []
theorem less_irrefl : ∀ a : List UInt8, Op.bytesLess a a = false
  | [] => rfl
  | x :: r => by simp [Op.bytesLess, less_irrefl r]
theorem less_total : ∀ a b : List UInt8, a ≠ b → Op.bytesLess a b = true ∨ Op.bytesLess b a = true
  | [], [], h => absurd rfl h
  | [], _ :: _, _ => by simp [Op.bytesLess]
  | _ :: _, [], _ => by simp [Op.bytesLess]
  | x :: r, y :: q, h => by
    simp only [Op.bytesLess, Bool.or_eq_true, Bool.and_eq_true, decide_eq_true_eq, beq_iff_eq]
    by_cases e : x = y
    · subst e
      have := less_total r q (fun g => h (by rw [g]))
      rcases this with g | g
      · exact .inl (.inr ⟨rfl, g⟩)
      · exact .inr (.inr ⟨rfl, g⟩)
    · have : x.toNat ≠ y.toNat := fun g => e (UInt8.toNat.inj g)
      rw [UInt8.lt_iff_toNat_lt, UInt8.lt_iff_toNat_lt]
      omega
theorem ahead_one (s p o s' p' o' : List UInt8) : (aheadL s p o s' p' o' || aheadL s' p' o' s p o) = !(s == s' && (p == p' && o == o')) := by
  unfold aheadL
  have key : ∀ a b : List UInt8, (Op.bytesLess a b || Op.bytesLess b a) = !(a == b) := by
    intro a b
    by_cases h : a = b
    · subst h; simp [less_irrefl]
    · have e : (a == b) = false := by simpa using h
      rw [e]
      rcases less_total a b h with g | g <;> simp [g]
  by_cases h1 : s = s'
  · subst h1
    by_cases h2 : p = p'
    · subst h2; simp [key]
    · simp [h2, Ne.symm h2, key]
  · simp [h1, Ne.symm h1, key]
end Go.Proofs.YtiajdnhmjdfeeaaGreat
