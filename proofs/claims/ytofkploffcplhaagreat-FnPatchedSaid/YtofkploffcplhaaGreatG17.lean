/- What a call may have written, told by where it lies; facts that speak of some blocks alone. -/
import Derived.Test.YtofkploffcplhaaGreatG08
import Derived.Test.YtofkploffcplhaaGreatG11
import Derived.Test.YtofkploffcplhaaGreatG16
import Derived.Test.YtofkploffcplhaaGreatG13
import Derived.Laws.AppendOwnNone
import Derived.Lib.SliceRun
namespace Go.Proofs.YtofkploffcplhaaGreat
open Go.RowKit
/-- Only what lies from D on and below E may have been written. -/
structure Turn (D E : Nat) (w w' : World) : Prop where
  os : w'.os = w.os
  tape : w'.tape = w.tape
  output : w'.output = w.output
  size : w.heap.size ≤ w'.heap.size
  block : ∀ k, k < w.heap.size → k < D ∨ E ≤ k → w'.heap[k]? = w.heap[k]?
theorem Turn.of_below {w w' : World} (h : Below w.heap.size w w') (D : Nat) : Turn D D w w' := ⟨h.os, h.tape, h.output, h.size, fun k hk _ => h.block k hk⟩
theorem Turn.of_grown {w w' : World} {row : Option Nat} (h : w.grownBy w' row) {D E : Nat} (hr : ∀ j, row = some j → D ≤ j ∧ j < E) : Turn D E w w' :=
  ⟨h.os, h.tape, h.output, h.size, fun k hk hd => h.block k hk (fun e => by have := hr k e.symm; omega)⟩
theorem Turn.below {D E B : Nat} {w w' : World} (h : Turn D E w w') (hB : B ≤ w.heap.size) (hD : B ≤ D) : Below B w w' := ⟨h.os, h.tape, h.output, h.size, fun k hk => h.block k (by omega) (.inl (by omega))⟩
/-- p speaks of nothing but the blocks from B on and below C. -/
def Lives (B C : Nat) (p : World → Prop) : Prop := ∀ w w' : World, (∀ k, B ≤ k → k < C → w'.heap[k]? = w.heap[k]?) → p w → p w'
/-- p holds, and speaks of nothing else. -/
structure Holds (B C : Nat) (w : World) (p : World → Prop) : Prop where
  lives : Lives B C p
  le : C ≤ w.heap.size
  now : p w
theorem Holds.step {B C D E : Nat} {w w' : World} {p : World → Prop} (h : Holds B C w p) (ht : Turn D E w w') (hd : C ≤ D ∨ E ≤ B) : Holds B C w' p :=
  ⟨h.lives, Nat.le_trans h.le ht.size, h.lives w w' (fun k h1 h2 => ht.block k (by have := h.le; omega) (by omega)) h.now⟩
theorem Holds.next {B C : Nat} {w w' : World} {p : World → Prop} (h : Holds B C w p) (hb : Below w.heap.size w w') : Holds B C w' p :=
  ⟨h.lives, Nat.le_trans h.le hb.size, h.lives w w' (fun k h1 h2 => hb.block k (by have := h.le; omega)) h.now⟩
theorem Holds.drew {B C : Nat} {w : World} {p : World → Prop} (h : Holds B C w p) : Holds B C w.drew p := ⟨h.lives, h.le, h.lives w w.drew (fun _ _ _ => rfl) h.now⟩
theorem Holds.undrew {B C : Nat} {w : World} {p : World → Prop} (h : Holds B C w.drew p) : Holds B C w p := ⟨h.lives, h.le, h.lives w.drew w (fun _ _ _ => rfl) h.now⟩
theorem Holds.alloc {B C : Nat} {w : World} {p : World → Prop} (h : Holds B C w p) (o : Obj) : Holds B C (w.alloc o) p := h.next ((Below.refl w.heap.size w).alloc (Nat.le_refl _) o)
theorem Holds.widen {B C B' C' : Nat} {w : World} {p : World → Prop} (h : Holds B C w p) (hB : B' ≤ B) (hC : C ≤ C') (hl : C' ≤ w.heap.size) : Holds B' C' w p :=
  ⟨fun w w' he => h.lives w w' (fun k h1 h2 => he k (by omega) (by omega)), hl, h.now⟩
/-- Block g holds just these cells. -/
def Cells (g : Nat) (cs : Array Value) (T : TypeId) (w : World) : Prop := w.heap[g]? = some (.cells cs T (0, 0))
theorem cells_lives (g : Nat) (cs : Array Value) (T : TypeId) : Lives g (g + 1) (Cells g cs T) := fun _ _ he h => (he g (Nat.le_refl _) (Nat.lt_succ_self _)).trans h
theorem cells_new (w : World) (cs : Array Value) (T : TypeId) : Holds w.heap.size (w.heap.size + 1) (w.alloc (.cells cs T)) (Cells w.heap.size cs T) := ⟨cells_lives _ _ _, by simp, heap_alloc_new w _⟩
theorem Cells.at {g : Nat} {cs : Array Value} {T : TypeId} {w : World} (h : Cells g cs T w) (i : Nat) : w.cell? ⟨g, i, none⟩ = cs[i]? := by
  unfold Cells at h; simp [World.cell?, h]
theorem Cells.free {g : Nat} {cs : Array Value} {T : TypeId} {w : World} (h : Cells g cs T w) (i : Nat) : w.frozen? ⟨g, i, none⟩ = false := by
  unfold Cells at h; simp [World.frozen?, h]
/-- What a row's owner says, with a ceiling, speaks of the row's block alone. -/
theorem row_lives {B C : Nat} {e : TypeId} {k n : Nat} {v : Value} {xs : List Value} : Lives B C (fun w => w.ownsRow B e k v n xs ∧ ∀ j, v.ownBlock = some j → j < C) := by
  rintro w w' he ⟨⟨h1, h2⟩, h3⟩
  refine ⟨⟨h1, ?_⟩, h3⟩
  rcases h2 with h2 | ⟨g, cap, cur, rfl, hB, hh, r⟩
  · exact .inl h2
  · exact .inr ⟨g, cap, cur, rfl, hB, (he g hB (h3 g rfl)).trans hh, r⟩
theorem row_holds {B e k n : Nat} {w w' : World} {v : Value} {xs : List Value} (h : w'.ownsRow w.heap.size e k v n xs) (_hb : Below B w w') : Holds w.heap.size w'.heap.size w' (fun W => W.ownsRow w.heap.size e k v n xs ∧ ∀ j, v.ownBlock = some j → j < w'.heap.size) :=
  ⟨row_lives, Nat.le_refl _, h, fun j hj => (World.ownsRow.lt h j hj).2⟩
theorem and_lives {B C : Nat} {p q : World → Prop} (hp : Lives B C p) (hq : Lives B C q) : Lives B C (fun w => p w ∧ q w) := fun w w2 he h => ⟨hp w w2 he h.1, hq w w2 he h.2⟩
/-- The call owns a slice of these triples, between B and C. -/
def OwnC (B C : Nat) (v : Value) (ts : List Tri3) (w : World) : Prop := OwnT B w v ts ∧ ∀ j, v.ownBlock = some j → j < C
theorem ownC_lives {B C : Nat} {v : Value} {ts : List Tri3} : Lives B C (OwnC B C v ts) := row_lives
theorem ownC_new {w w' : World} {v : Value} {ts : List Tri3} (h : OwnT w.heap.size w' v ts) (_hb : Below w.heap.size w w') : Holds w.heap.size w'.heap.size w' (OwnC w.heap.size w'.heap.size v ts) :=
  ⟨ownC_lives, Nat.le_refl _, h, fun j hj => (World.ownsRow.lt h j hj).2⟩
theorem OwnC.turn {B C : Nat} {v : Value} {ts : List Tri3} {w w' : World} (h : OwnC B C v ts w) (hg : w.grownBy w' v.ownBlock) : Turn B C w w' := .of_grown hg (fun j hj => ⟨(World.ownsRow.lt h.1 j hj).1, h.2 j hj⟩)
end Go.Proofs.YtofkploffcplhaaGreat
/- What a set of triples is asked: whether it has one, any, all of some; some without what it has. -/
namespace Go.Proofs.YtofkploffcplhaaGreat
open Go.RowKit Go.WideShapes Go.Maps
theorem zeroBool (w : World) : (zeroValue 4).run Tryz.prog w = .ok (.bool false) w := by kernel_rfl
set_option maxRecDepth 100000 in
set_option maxHeartbeats 1600000 in
theorem implHas (b m : Nat) (us : List Tri3) (s p o : ByteArray) (w : World) (h : OwnSet w b m us) (hs : SmK (s, p, o)) :
    Calls Tryz.prog 42 #[.map (some b), .agg #[.string s, .string p, .string o]] w fun e w' => e = .returned (.bool (decide ((s, p, o) ∈ us))) ∧ Below w.heap.size w w' := by
  have B0 := (Below.refl w.heap.size w).alloc (Nat.le_refl _) (.cells #[.string s, .string p, .string o] 38)
  have X0 := Box.new w (.string s) (.string p) (.string o) 38
  have O0 := Lib.hid (h.alloc (.cells #[.string s, .string p, .string o] 38))
  obtain ⟨c0, c1, c2⟩ := X0.cells
  have HZ := Lib.hid zeroBool
  clear h X0
  go_enter Tryz.func42, Tryz.ntmps42
  go_wp2_with (at_lookup; refine wpList_lookG _ rfl _ _ rfl b m us rfl O0.out (s, p, o) hs rfl (HZ.out _) ?_)
  go_ret
  exact ⟨rfl, B0⟩
set_option maxRecDepth 100000 in
set_option maxHeartbeats 1600000 in
theorem implHasAll1 (b m q : Nat) (us : List Tri3) (s p o : ByteArray) (w : World) (h : OwnSet w b m us) (hq : w.cell? ⟨q, 0, none⟩ = some (.map (some b))) (hs : SmK (s, p, o)) :
    Calls Tryz.prog 41 #[.agg #[.string s, .string p, .string o], .pointer (some ⟨q, 0, none⟩)] w fun e w' => e = .returned (.bool (!decide ((s, p, o) ∈ us))) ∧ Below w.heap.size w w' := by
  have B0 := (Below.refl w.heap.size w).alloc (Nat.le_refl _) (.cells #[.string s, .string p, .string o] 38)
  have X0 := Box.new w (.string s) (.string p) (.string o) 38
  have C := Lib.hid (implHas b m us s p o _ (h.alloc (.cells #[.string s, .string p, .string o] 38)) hs)
  have q0 : (w.alloc (.cells #[.string s, .string p, .string o] 38)).cell? ⟨q, 0, none⟩ = some (.map (some b)) := (B0.cell (World.block_lt_of_cell? _ _ hq)).trans hq
  obtain ⟨c0, c1, c2⟩ := X0.cells
  clear h X0 hq
  generalize decide ((s, p, o) ∈ us) = bb at C ⊢
  go_enter Tryz.func41, Tryz.ntmps41
  go_wp2_with fail
  refine C.out.mono ?_
  rintro e w1 ⟨rfl, hb⟩
  cases bb
  all_goals
    go_wp2_with fail
    go_ret
    exact ⟨rfl, B0.trans (hb.mono B0.size)⟩


set_option maxRecDepth 100000 in
set_option maxHeartbeats 1600000 in
theorem implIndexHas (b m : Nat) (us : List Tri3) (a : Option Addr) (len cap : Nat) (ts : List Tri3) (w : World) (hS : OwnSet w b m us) (h : IsTris w a len cap ts) (hl : len ≤ 1048576) :
    Calls Tryz.prog 54 #[.slice a len cap, .func (.func 42) #[.map (some b)] #[]] w fun e w' => ∃ i : Int, e = .returned (.int .i64 i) ∧ ((i = -1 ∧ ∀ t ∈ ts, decide (t ∈ us) = false) ∨ ∃ (k : Nat) (t : Tri3), i = k ∧ ts[k]? = some t ∧ decide (t ∈ us) = true ∧ ∀ u ∈ ts.take k, decide (u ∈ us) = false) ∧ Below w.heap.size w w' := by
  have H := Lib.hid h
  have HS := Lib.hid hS
  have HT := Lib.hid h.len
  clear h hS
  go_enter Tryz.func54, Tryz.ntmps54
  go_wp2_with fail
  go_loopw [5, 8] (fun _ i wr => ∃ k : Nat, k ≤ len ∧ i = .int .i64 k ∧ Hid (∀ u ∈ ts.take k, decide (u ∈ us) = false) ∧ Below w.heap.size w wr) (fun _ i _ => len - (intOf i).toNat)
  case atStart => exact ⟨0, Nat.zero_le _, rfl, Lib.hid (by simp), Below.refl _ _⟩
  case round =>
    obtain ⟨k, hk, rfl, hno, hnx⟩ := hrel
    have hk6 : (0 : Int) ≤ (k : Int) := by omega
    by_cases hlt : k < len
    · have hk7 : (k : Int) < (len : Int) := by omega
      obtain ⟨b1, off, rfl, hb, _, _, hts, hcs⟩ := H.out.cells (by omega)
      have ht : ts[k]? = some (ts[k]'(by omega)) := List.getElem?_eq_getElem (by omega)
      have HX : Hid (ts.take (k + 1) = ts.take k ++ [ts[k]'(by omega)]) := Lib.hid (List.take_succ_eq_append_getElem (by omega))
      obtain ⟨d0, d1, d2, m0, m1, m2⟩ := hcs k _ ht
      rw [← hnx.cell (p := ⟨b1, _, none⟩) hb] at d0 d1 d2
      generalize ts[k]'(by omega) = u at ht d0 d1 d2 m0 m1 m2 HX
      obtain ⟨u0, u1, u2⟩ := u
      simp only at d0 d1 d2
      have C := implHas b m us u0 u1 u2 wr (HS.out.next hnx) ⟨m0, m1, m2⟩
      have hb0 : 0 < 1 := Nat.one_pos
      have HTK := Lib.hid ht
      clear hts hcs m0 m1 m2 ht hb0
      cases hq : decide ((u0, u1, u2) ∈ us)
      · rw [show decide ((u0, u1, u2) ∈ us) = false from hq] at C
        have HN : Hid (∀ u ∈ ts.take (k + 1), decide (u ∈ us) = false) := Lib.hid (by
          rw [HX.out]
          intro v hv
          rcases List.mem_append.1 hv with g | g
          · exact hno.out v g
          · rw [List.mem_singleton.1 g]; exact hq)
        have HC := Lib.hid C
        clear C hq hno HX
        go_wp2_with fail
        refine HC.out.mono ?_
        rintro e w1 ⟨rfl, hb1⟩
        have B := hnx.trans (hb1.mono hnx.size)
        clear hb1 hnx d0 d1 d2
        go_wp2_with fail
        go_roundw
        case rel => exact ⟨k + 1, by omega, by go_num, HN, B⟩
        case measure => simp [intOf]; omega
      · rw [show decide ((u0, u1, u2) ∈ us) = true from hq] at C
        have HQ := Lib.hid hq
        have HC := Lib.hid C
        clear C hq HX
        go_wp2_with fail
        refine HC.out.mono ?_
        rintro e w1 ⟨rfl, hb1⟩
        have B := hnx.trans (hb1.mono hnx.size)
        clear hb1 hnx d0 d1 d2
        go_wp2_with fail
        go_ret
        exact ⟨k, rfl, .inr ⟨k, _, rfl, HTK.out, HQ.out, hno.out⟩, B⟩
    · obtain rfl : k = len := by omega
      have HR : Hid (∀ u ∈ ts, decide (u ∈ us) = false) := Lib.hid (by
        have := hno.out
        rwa [List.take_of_length_le (by rw [HT.out]; exact Nat.le_refl _)] at this)
      clear hno
      go_wp2_with fail
      go_ret
      exact ⟨-1, rfl, .inl ⟨rfl, HR.out⟩, hnx⟩
set_option maxRecDepth 100000 in
theorem implContainsHas (b m : Nat) (us : List Tri3) (a : Option Addr) (len cap : Nat) (ts : List Tri3) (w : World) (hS : OwnSet w b m us) (h : IsTris w a len cap ts) (hl : len ≤ 1048576) :
    Calls Tryz.prog 40 #[.slice a len cap, .func (.func 42) #[.map (some b)] #[]] w fun e w' => e = .returned (.bool (ts.any fun t => decide (t ∈ us))) ∧ Below w.heap.size w w' := by
  have C := Lib.hid (implIndexHas b m us a len cap ts w hS h hl)
  clear h hS
  go_enter Tryz.func40, Tryz.ntmps40
  go_wp2_with fail
  refine C.out.mono ?_
  rintro e w1 ⟨i, rfl, hi, hb⟩
  rcases hi with ⟨rfl, hn⟩ | ⟨k, t, rfl, ht, hp, _⟩
  · have HR : Hid ((ts.any fun t => decide (t ∈ us)) = false) := Lib.hid (List.any_eq_false.2 fun t ht => by rw [hn t ht]; simp)
    clear hn
    go_wp2_with fail
    go_ret
    exact ⟨by rw [HR.out]; rfl, hb⟩
  · have HR : Hid ((ts.any fun t => decide (t ∈ us)) = true) := Lib.hid (List.any_eq_true.2 ⟨t, List.mem_of_getElem? ht, hp⟩)
    have hk6 : (0 : Int) ≤ (k : Int) := by omega
    clear ht hp
    go_wp2_with fail
    go_ret
    exact ⟨by rw [HR.out]; rfl, hb⟩


set_option maxRecDepth 100000 in
set_option maxHeartbeats 1600000 in
theorem implIndexAll (b m q : Nat) (us : List Tri3) (a : Option Addr) (len cap : Nat) (ts : List Tri3) (w : World) (hS : OwnSet w b m us) (hq : w.cell? ⟨q, 0, none⟩ = some (.map (some b))) (h : IsTris w a len cap ts) (hl : len ≤ 1048576) :
    Calls Tryz.prog 54 #[.slice a len cap, .func (.func 41) #[] #[.pointer (some ⟨q, 0, none⟩)]] w fun e w' => ∃ i : Int, e = .returned (.int .i64 i) ∧ ((i = -1 ∧ ∀ t ∈ ts, (!decide (t ∈ us)) = false) ∨ ∃ (k : Nat) (t : Tri3), i = k ∧ ts[k]? = some t ∧ (!decide (t ∈ us)) = true ∧ ∀ u ∈ ts.take k, (!decide (u ∈ us)) = false) ∧ Below w.heap.size w w' := by
  have H := Lib.hid h
  have HS := Lib.hid hS
  have HT := Lib.hid h.len
  clear h hS
  go_enter Tryz.func54, Tryz.ntmps54
  go_wp2_with fail
  go_loopw [5, 8] (fun _ i wr => ∃ k : Nat, k ≤ len ∧ i = .int .i64 k ∧ Hid (∀ u ∈ ts.take k, (!decide (u ∈ us)) = false) ∧ Below w.heap.size w wr) (fun _ i _ => len - (intOf i).toNat)
  case atStart => exact ⟨0, Nat.zero_le _, rfl, Lib.hid (by simp), Below.refl _ _⟩
  case round =>
    obtain ⟨k, hk, rfl, hno, hnx⟩ := hrel
    have hk6 : (0 : Int) ≤ (k : Int) := by omega
    by_cases hlt : k < len
    · have hk7 : (k : Int) < (len : Int) := by omega
      obtain ⟨b1, off, rfl, hb, _, _, hts, hcs⟩ := H.out.cells (by omega)
      have ht : ts[k]? = some (ts[k]'(by omega)) := List.getElem?_eq_getElem (by omega)
      have HX : Hid (ts.take (k + 1) = ts.take k ++ [ts[k]'(by omega)]) := Lib.hid (List.take_succ_eq_append_getElem (by omega))
      obtain ⟨d0, d1, d2, m0, m1, m2⟩ := hcs k _ ht
      rw [← hnx.cell (p := ⟨b1, _, none⟩) hb] at d0 d1 d2
      generalize ts[k]'(by omega) = u at ht d0 d1 d2 m0 m1 m2 HX
      obtain ⟨u0, u1, u2⟩ := u
      simp only at d0 d1 d2
      have C := implHasAll1 b m q us u0 u1 u2 wr (HS.out.next hnx) ((hnx.cell (World.block_lt_of_cell? _ _ hq)).trans hq) ⟨m0, m1, m2⟩
      have hb0 : 0 < 1 := Nat.one_pos
      have HTK := Lib.hid ht
      clear hts hcs m0 m1 m2 ht hb0
      cases hq : (!decide ((u0, u1, u2) ∈ us))
      · rw [show (!decide ((u0, u1, u2) ∈ us)) = false from hq] at C
        have HN : Hid (∀ u ∈ ts.take (k + 1), (!decide (u ∈ us)) = false) := Lib.hid (by
          rw [HX.out]
          intro v hv
          rcases List.mem_append.1 hv with g | g
          · exact hno.out v g
          · rw [List.mem_singleton.1 g]; exact hq)
        have HC := Lib.hid C
        clear C hq hno HX
        go_wp2_with fail
        refine HC.out.mono ?_
        rintro e w1 ⟨rfl, hb1⟩
        have B := hnx.trans (hb1.mono hnx.size)
        clear hb1 hnx d0 d1 d2
        go_wp2_with fail
        go_roundw
        case rel => exact ⟨k + 1, by omega, by go_num, HN, B⟩
        case measure => simp [intOf]; omega
      · rw [show (!decide ((u0, u1, u2) ∈ us)) = true from hq] at C
        have HQ := Lib.hid hq
        have HC := Lib.hid C
        clear C hq HX
        go_wp2_with fail
        refine HC.out.mono ?_
        rintro e w1 ⟨rfl, hb1⟩
        have B := hnx.trans (hb1.mono hnx.size)
        clear hb1 hnx d0 d1 d2
        go_wp2_with fail
        go_ret
        exact ⟨k, rfl, .inr ⟨k, _, rfl, HTK.out, HQ.out, hno.out⟩, B⟩
    · obtain rfl : k = len := by omega
      have HR : Hid (∀ u ∈ ts, (!decide (u ∈ us)) = false) := Lib.hid (by
        have := hno.out
        rwa [List.take_of_length_le (by rw [HT.out]; exact Nat.le_refl _)] at this)
      clear hno
      go_wp2_with fail
      go_ret
      exact ⟨-1, rfl, .inl ⟨rfl, HR.out⟩, hnx⟩
set_option maxRecDepth 100000 in
theorem implContainsAll (b m q : Nat) (us : List Tri3) (a : Option Addr) (len cap : Nat) (ts : List Tri3) (w : World) (hS : OwnSet w b m us) (hq : w.cell? ⟨q, 0, none⟩ = some (.map (some b))) (h : IsTris w a len cap ts) (hl : len ≤ 1048576) :
    Calls Tryz.prog 40 #[.slice a len cap, .func (.func 41) #[] #[.pointer (some ⟨q, 0, none⟩)]] w fun e w' => e = .returned (.bool (ts.any fun t => (!decide (t ∈ us)))) ∧ Below w.heap.size w w' := by
  have C := Lib.hid (implIndexAll b m q us a len cap ts w hS hq h hl)
  clear h hS
  go_enter Tryz.func40, Tryz.ntmps40
  go_wp2_with fail
  refine C.out.mono ?_
  rintro e w1 ⟨i, rfl, hi, hb⟩
  rcases hi with ⟨rfl, hn⟩ | ⟨k, t, rfl, ht, hp, _⟩
  · have HR : Hid ((ts.any fun t => (!decide (t ∈ us))) = false) := Lib.hid (List.any_eq_false.2 fun t ht => by rw [hn t ht]; simp)
    clear hn
    go_wp2_with fail
    go_ret
    exact ⟨by rw [HR.out]; rfl, hb⟩
  · have HR : Hid ((ts.any fun t => (!decide (t ∈ us))) = true) := Lib.hid (List.any_eq_true.2 ⟨t, List.mem_of_getElem? ht, hp⟩)
    have hk6 : (0 : Int) ≤ (k : Int) := by omega
    clear ht hp
    go_wp2_with fail
    go_ret
    exact ⟨by rw [HR.out]; rfl, hb⟩

end Go.Proofs.YtofkploffcplhaaGreat
/- A set of triples is asked for any, for all of some; a slice's copy; the copy without what the set has. -/
namespace Go.Proofs.YtofkploffcplhaaGreat
open Go.RowKit Go.WideShapes Go.Maps
set_option maxRecDepth 100000 in
theorem implHasAny (b m : Nat) (us : List Tri3) (a : Option Addr) (len cap : Nat) (ts : List Tri3) (w : World) (hS : OwnSet w b m us) (h : IsTris w a len cap ts) (hl : len ≤ 1048576) :
    Calls Tryz.prog 22 #[.map (some b), .slice a len cap] w fun e w' => e = .returned (.bool (anyT us ts)) ∧ Below w.heap.size w w' := by
  have C := Lib.hid (implContainsHas b m us a len cap ts w hS h hl)
  clear h hS
  go_enter Tryz.func22, Tryz.ntmps22
  go_wp2_with fail
  refine C.out.mono ?_
  rintro e w1 ⟨rfl, hb⟩
  go_wp2_with fail
  go_ret
  exact ⟨rfl, hb⟩
theorem subT_any (us ts : List Tri3) : subT us ts = !(ts.any fun t => !decide (t ∈ us)) := by
  unfold subT
  rw [List.not_any_eq_all_not]
  congr 1
  funext t
  simp
set_option maxRecDepth 100000 in
theorem implHasAll (b m : Nat) (us : List Tri3) (a : Option Addr) (len cap : Nat) (ts : List Tri3) (w : World) (hS : OwnSet w b m us) (h : IsTris w a len cap ts) (hl : len ≤ 1048576) :
    Calls Tryz.prog 21 #[.map (some b), .slice a len cap] w fun e w' => e = .returned (.bool (subT us ts)) ∧ Below w.heap.size w w' := by
  have B0 := (Below.refl w.heap.size w).alloc (Nat.le_refl _) (.cells #[.map (some b)] 45)
  have C := Lib.hid (implContainsAll b m w.heap.size us a len cap ts _ (hS.alloc (.cells #[.map (some b)] 45)) (by simp) (h.next B0) hl)
  have HR := Lib.hid (subT_any us ts)
  clear h hS
  go_enter Tryz.func21, Tryz.ntmps21
  go_wp2_with fail
  refine C.out.mono ?_
  rintro e w1 ⟨rfl, hb⟩
  generalize (ts.any fun t => !decide (t ∈ us)) = bb at HR
  have B1 := B0.trans (hb.mono B0.size)
  clear hb B0 C
  cases bb
  all_goals
    go_wp2_with fail
    go_ret
    exact ⟨by rw [HR.out]; rfl, B1⟩
set_option maxRecDepth 100000 in
set_option maxHeartbeats 1600000 in
theorem implClone (a : Option Addr) (len cap : Nat) (ts : List Tri3) (w : World) (h : IsTris w a len cap ts) (hl : len ≤ 1048576) :
    Calls Tryz.prog 30 #[.slice a len cap] w fun e w' => ∃ v, e = .returned v ∧ OwnT w.heap.size w' v ts ∧ Below w.heap.size w w' := by
  obtain ⟨i0, hi, hz0, hz1, hz2⟩ := info_parts infoTri
  have q22 : ∀ (w : World) (a : Option Addr) (n c n' c' : Nat), (binOp .eql 24 (.slice a n c) (.slice none n' c')).run Tryz.prog w = .ok (.bool a.isNone) w := fun w a n c n' c' => Lib.run_eql_slice_nil w _ _ a n c n' c' Tryz.underlying24
  rcases h with ⟨rfl, rfl, rfl, rfl⟩ | ⟨x, rfl, h1, h2, h3, h4⟩
  · go_enter Tryz.func30, Tryz.ntmps30
    go_wp2_with fail
    go_ret
    exact ⟨_, rfl, World.ownsRow_nil .., Below.refl _ _⟩
  have O0 : OwnT w.heap.size (w.alloc (.cells #[] 38)) (.slice (some ⟨w.heap.size, 0, none⟩) 0 0) [] := World.ownsRow_lit (size := 3) (e := 38) w #[] 0 (Nat.le_refl _) (by decide) rfl
  have BA := (Below.refl w.heap.size w).alloc (Nat.le_refl _) (.cells #[] 38)
  have F : ∀ (j : Nat) (u : Value), (flat ts)[j]? = some u → (w.alloc (.cells #[] 38)).cell? (x.add j) = some u := by
    intro j u hu
    have hj : j < ts.length * 3 := by rw [← flat_len]; exact (List.getElem?_eq_some_iff.1 hu).1
    have hk : j / 3 < ts.length := by omega
    obtain ⟨f0, f1, f2⟩ := flat_at ts (j / 3) _ (List.getElem?_eq_getElem hk)
    obtain ⟨c0, c1, c2, _⟩ := h4 (j / 3) _ (List.getElem?_eq_getElem hk)
    have hc : w.cell? (x.add j) = some u := by
      obtain e | e | e : j = 3 * (j / 3) ∨ j = 3 * (j / 3) + 1 ∨ j = 3 * (j / 3) + 2 := by omega
      · rw [e] at hu ⊢; rw [Nat.mul_comm] at hu; rw [c0, ← hu, f0]
      · rw [e] at hu ⊢; rw [Nat.mul_comm] at hu; rw [c1, ← hu, f1]
      · rw [e] at hu ⊢; rw [Nat.mul_comm] at hu; rw [c2, ← hu, f2]
    exact Lib.cell?_alloc_some _ hc
  have HL := Lib.hid h3
  have HF := Lib.hid F
  have HO := Lib.hid O0
  clear h4 F O0 h1 h2 h3
  go_enter Tryz.func30, Tryz.ntmps30
  go_wp2_with (at_builtin; refine wpList_append_own _ rfl _ _ 24 rfl w.heap.size 38 i0 (.agg #[.string ⟨#[]⟩, .string ⟨#[]⟩, .string ⟨#[]⟩]) 3 48 Tryz.underlying24 hi hz0 hz1 hz2 rfl (by decide) _ _ _ rfl HO.out x len _ (flat ts) rfl (by rw [flat_len, HL.out]) HF.out (fun v hv => by unfold flat at hv; obtain ⟨t, _, h⟩ := List.mem_flatMap.1 hv; simp at h; rcases h with rfl | rfl | rfl <;> rfl) ?h63a ?h48a ?hbsa ?_)
  case h63a => rw [List.length_nil]; unfold maxLen; omega
  case h48a => rw [List.length_nil]; omega
  case hbsa => simp only [World.size_alloc]; omega
  intro v1 w1 hown1 hg1 _
  have O1 : OwnT w.heap.size w1 v1 ts := by unfold OwnT; rw [HL.out]; simpa [show flat ([] : List Tri3) = [] from rfl] using hown1
  have B1 : Below w.heap.size w w1 := BA.grown hg1 BA.size (fun j hj => by simp [Value.ownBlock] at hj; omega)
  have HO1 := Lib.hid O1
  clear hown1 hg1 HO HF O1
  go_wp2_with fail
  go_ret
  exact ⟨_, rfl, HO1.out, B1⟩
/-- clear(s) at elements of three cells. -/
theorem run_clear3 {P : Program} (w : World) (t e ty : TypeId) (z : Value) (ht : P.underlying t = some (.slice e)) (hv : ∀ w, (zeroValue e).run P w = .ok z w) (hz : z.cells.size = 3) (h1 : ∀ v ∈ z.cells, v.oneCell' = true) (b o n c : Nat) (hn : 0 < n)
    (hc : ∀ j, j < n * 3 → (w.cell? ⟨b, o + j, none⟩).isSome = true) (hf : ∀ j, j < n * 3 → w.frozen? ⟨b, o + j, none⟩ = false) :
    (Builtin.clear_ #[t] ty #[.slice (some ⟨b, o, none⟩) n c]).run P w = .ok (.tuple #[]) (w.setCells b o (Builtin.zeroCells z.cells n).toList) := by
  have hl : (Builtin.zeroCells z.cells n).toList.length = n * 3 := by simp [Builtin.zeroCells, hz]
  have hst := run_storeCells_cells (P := P) b o (Builtin.zeroCells z.cells n).toList 0 w (by rw [hl]; simpa using hc) (by rw [hl]; simpa using hf) (by
    intro v hv'
    simp only [Builtin.zeroCells, Array.toList_map, List.mem_map] at hv'
    obtain ⟨i, _, rfl⟩ := hv'
    have hi : i % z.cells.size < z.cells.size := Nat.mod_lt _ (by omega)
    rw [getElem!_pos z.cells _ hi]
    exact h1 _ (Array.getElem_mem hi))
  simp only [Nat.add_zero] at hst
  obtain ⟨m, rfl⟩ : ∃ m, n = m + 1 := ⟨n - 1, by omega⟩
  simp [Builtin.clear_, run_underlying ht, hv, hst]
theorem own_setCells {B g : Nat} {e k n cap : Nat} : ∀ (vs : List Value) (o : Nat) (w : World) (xs : List Value), w.ownsRow B e k (.slice (some ⟨g, 0, none⟩) n cap) n xs → ∃ ys, (w.setCells g o vs).ownsRow B e k (.slice (some ⟨g, 0, none⟩) n cap) n ys ∧ ys.take o = xs.take o
  | [], o, w, xs, h => ⟨xs, h, rfl⟩
  | v :: r, o, w, xs, h => by
    obtain ⟨ys, h1, h2⟩ := own_setCells r (o + 1) (w.setCell ⟨g, o, none⟩ v) _ (h.stored o v).1
    refine ⟨ys, h1, ?_⟩
    have := congrArg (List.take o) h2
    rw [List.take_take, List.take_take, Nat.min_eq_left (Nat.le_succ o)] at this
    rw [this, List.take_set_of_le (Nat.le_refl o)]
theorem grown_setCells {w : World} (g : Nat) : ∀ (vs : List Value) (o : Nat) (w' : World), w.grownBy w' (some g) → w.grownBy (w'.setCells g o vs) (some g)
  | [], _, _, h => h
  | v :: r, o, _, h => grown_setCells g r (o + 1) _ (grown_set h o v)
theorem own_cut {B e k n cap i : Nat} {g : Nat} {w : World} {xs : List Value} (h : w.ownsRow B e k (.slice (some ⟨g, 0, none⟩) n cap) n xs) (hi : i ≤ n) : w.ownsRow B e k (.slice (some ⟨g, 0, none⟩) i cap) i (xs.take (i * k)) := by
  have hik : i * k ≤ n * k := Nat.mul_le_mul_right k hi
  obtain ⟨h1, h2⟩ := h
  refine ⟨by rw [List.length_take]; omega, ?_⟩
  rcases h2 with ⟨e1, _⟩ | ⟨g', cap', cur, e1, hB, hh, hn, hm, hs, ht⟩
  · cases e1
  · simp only [Value.slice.injEq, Option.some.injEq, Addr.mk.injEq, true_and, and_true] at e1
    obtain ⟨rfl, rfl⟩ := e1
    exact .inr ⟨g, cap, cur, rfl, hB, hh, by omega, hm, hs, by rw [← ht, List.take_take, Nat.min_eq_left hik]⟩
end Go.Proofs.YtofkploffcplhaaGreat
