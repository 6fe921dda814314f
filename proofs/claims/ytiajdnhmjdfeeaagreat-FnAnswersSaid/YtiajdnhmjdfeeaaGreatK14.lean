/- Whether a text is in a list of texts: the specification's own.; When a query is right: plain facts.; What a call may have written, told by where it lies; facts that speak of some blocks alone. -/
import Derived.Test.YtiajdnhmjdfeeaaGreatK11
import Derived.Test.YtiajdnhmjdfeeaaGreatK13
import Derived.Test.YtiajdnhmjdfeeaaGreatK09
namespace Go.Proofs.YtiajdnhmjdfeeaaGreat
open Go.RowKit Go.WideShapes
def hasB (ts : List ByteArray) (x : ByteArray) : Bool := ts.any fun y => y.toList == x.toList
theorem hasB_yes {ts : List ByteArray} {x u : ByteArray} {k : Nat} (h : ts[k]? = some u) (he : (u.toList == x.toList) = true) : hasB ts x = true := List.any_eq_true.2 ⟨u, List.mem_of_getElem? h, he⟩
theorem hasB_no {ts : List ByteArray} {x : ByteArray} (h : ∀ (i : Nat) (u : ByteArray), i < ts.length → ts[i]? = some u → (u.toList == x.toList) = false) : hasB ts x = false := by
  unfold hasB
  rw [List.any_eq_false]
  intro u hu
  obtain ⟨i, hi⟩ := List.mem_iff_getElem?.1 hu
  rw [h i u (List.getElem?_eq_some_iff.1 hi).1 hi]; simp
set_option maxRecDepth 100000 in
theorem specHas (a : Option Addr) (n c : Nat) (ts : List ByteArray) (x : ByteArray) (w : World) (h : IsStrs w a n c ts) (hn : n ≤ 1048576) :
    Calls Tryz.prog 101 #[.slice a n c, .string x] w fun e w' => e = .returned (.bool (hasB ts x)) ∧ w' = w := by
  have H := Lib.hid h
  have HL := Lib.hid h.len
  clear h
  go_enter Tryz.func101, Tryz.ntmps101
  go_wp2_with fail
  go_loop [5] (fun i => ∃ k : Nat, k ≤ n ∧ i = .int .i64 k ∧ Hid (∀ (i : Nat) (u : ByteArray), i < k → ts[i]? = some u → (u.toList == x.toList) = false)) (fun i => n - (intOf i).toNat)
  case atStart => exact ⟨0, Nat.zero_le _, rfl, Lib.hid (fun i u hi => by omega)⟩
  case round =>
    obtain ⟨k, hk, rfl, hno⟩ := hrel
    by_cases hlt : k < n
    · obtain ⟨b, off, rfl, hb, _, _, hts, hcs⟩ := H.out.cells (by omega)
      have hu : ts[k]? = some (ts[k]'(by omega)) := List.getElem?_eq_getElem (by omega)
      have hc := hcs k _ hu
      generalize ts[k]'(by omega) = u at hu hc
      have hk6 : (0 : Int) ≤ (k : Int) := by omega
      have hk7 : (k : Int) < (n : Int) := by omega
      have HU := Lib.hid hu
      clear hts hcs hu
      cases he : (u.toList == x.toList)
      · have HN : Hid (∀ (i : Nat) (u : ByteArray), i < k + 1 → ts[i]? = some u → (u.toList == x.toList) = false) := Lib.hid (fun i v hi hv => by
          rcases Nat.lt_or_ge i k with g | g
          · exact hno.out i v g hv
          · obtain rfl : i = k := by omega
            rw [HU.out] at hv; obtain rfl := Option.some.inj hv; exact he)
        clear hno HU
        go_wp2_with fail
        go_round
        case rel => exact ⟨k + 1, by omega, by go_num, HN⟩
        case measure => simp [intOf]; omega
      · have HR : Hid (hasB ts x = true) := Lib.hid (hasB_yes HU.out he)
        clear hno HU
        go_wp2_with fail
        go_ret
        exact ⟨by rw [HR.out]; rfl, rfl⟩
    · have HR : Hid (hasB ts x = false) := Lib.hid (hasB_no (fun i u hi hu => hno.out i u (by have := HL.out; omega) hu))
      clear hno
      go_wp2_with fail
      go_ret
      exact ⟨by rw [HR.out]; rfl, rfl⟩
end Go.Proofs.YtiajdnhmjdfeeaaGreat
namespace Go.Proofs.YtiajdnhmjdfeeaaGreat
open Go.RowKit Go.WideShapes Go.Maps
theorem addAllS_full : ∀ (us ts : List Txt), (addAllS ts us).length = ts.length + us.length ↔ us.Nodup ∧ ∀ u ∈ us, u ∉ ts
  | [], ts => by simp [addAllS]
  | u :: us, ts => by
    show (addAllS (addS ts u) us).length = _ ↔ _
    have hl := addAllS_len us (addS ts u)
    by_cases hin : u ∈ ts
    · have e : addS ts u = ts := by unfold addS; rw [if_pos hin]
      rw [e] at hl ⊢
      rw [List.length_cons]
      exact ⟨fun h => by omega, fun h => absurd hin (h.2 u (by simp))⟩
    · have e : addS ts u = ts ++ [u] := by unfold addS; rw [if_neg hin]
      have ih := addAllS_full us (ts ++ [u])
      rw [e]
      rw [List.length_append, List.length_singleton] at ih
      rw [List.length_cons, show ts.length + (us.length + 1) = ts.length + 1 + us.length from by omega, ih, List.nodup_cons]
      constructor
      · rintro ⟨h1, h2⟩
        refine ⟨⟨fun hu => h2 u hu (by simp), h1⟩, fun v hv => ?_⟩
        rcases List.mem_cons.1 hv with rfl | hv
        · exact hin
        · exact fun hc => h2 v hv (by simp [hc])
      · rintro ⟨⟨h1, h2⟩, h3⟩
        refine ⟨h2, fun v hv hc => ?_⟩
        rcases List.mem_append.1 hc with hc | hc
        · exact h3 v (by simp [hv]) hc
        · obtain rfl := List.mem_singleton.1 hc
          exact h1 hv
theorem addAllS_same (l : List Txt) : (addAllS [] l).length = l.length ↔ l.Nodup := by
  have := addAllS_full l []
  simpa using this
def distS (l : List Txt) : Bool := decide ((addAllS [] l).length = l.length)
def queryOk (vs : List ByteArray) (t1 t2 : List Tri3) : Bool :=
  decide (0 < t1.length) && (bgpOk t1 && (bgpOk t2 && (decide (1 ≤ vs.length) && (decide (vs.length ≤ 4) && (distS (txts vs) && subS (addAllS [] (allVars t1 ++ allVars t2)) (txts vs))))))
theorem allVars_app {t1 t2 : List Tri3} {u : Txt} : u ∈ allVars (t1 ++ t2) ↔ u ∈ addAllS [] (allVars t1 ++ allVars t2) := by
  have e : varWords (t1 ++ t2) = varWords t1 ++ varWords t2 := by simp [varWords]
  unfold allVars
  rw [e, putAllS_mem, addAllS_mem]
  simp only [List.mem_append, putAllS_mem, List.not_mem_nil, false_or]
theorem queryOk_is {vs : List ByteArray} {t1 t2 : List Tri3} (h1 : 0 < t1.length) (hb1 : bgpOk t1 = true) (hb2 : bgpOk t2 = true) (hl : 1 ≤ vs.length) (hl4 : vs.length ≤ 4) :
    queryOk vs t1 t2 = true ↔ (txts vs).Nodup ∧ ∀ v ∈ txts vs, v ∈ allVars (t1 ++ t2) := by
  unfold queryOk distS subS
  rw [hb1, hb2]
  simp only [h1, hl, hl4, decide_true, Bool.true_and, Bool.and_eq_true, decide_eq_true_eq, List.all_eq_true, addAllS_same, allVars_app]
theorem txts_bs (l : List Txt) : txts (l.map bs) = l := by
  unfold txts
  rw [List.map_map]
  conv => rhs; rw [← List.map_id l]
  apply List.map_congr_left
  intro t _
  simp [bs]
theorem hasB_mem (vs : List ByteArray) (x : ByteArray) : hasB vs x = decide (x.data.toList ∈ txts vs) := by
  rw [Bool.eq_iff_iff, decide_eq_true_eq]
  unfold hasB txts
  rw [List.any_eq_true, List.mem_map]
  constructor
  · rintro ⟨y, hy, e⟩
    rw [beq_iff_eq, ByteArray.toList_eq, ByteArray.toList_eq] at e
    exact ⟨y, hy, e⟩
  · rintro ⟨y, hy, e⟩
    exact ⟨y, hy, by rw [beq_iff_eq, ByteArray.toList_eq, ByteArray.toList_eq]; exact e⟩
end Go.Proofs.YtiajdnhmjdfeeaaGreat
namespace Go.Proofs.YtiajdnhmjdfeeaaGreat
open Go.RowKit
/-- Only what lies from D on and below E may have been written. -/
structure Turn (D E : Nat) (w w' : World) : Prop where
  os : w'.os = w.os
  tape : w'.tape = w.tape
  output : w'.output = w.output
  size : w.heap.size ≤ w'.heap.size
  block : ∀ k, k < w.heap.size → k < D ∨ E ≤ k → w'.heap[k]? = w.heap[k]?
theorem Turn.of_grown {w w' : World} {row : Option Nat} (h : w.grownBy w' row) {D E : Nat} (hr : ∀ j, row = some j → D ≤ j ∧ j < E) : Turn D E w w' :=
  ⟨h.os, h.tape, h.output, h.size, fun k hk hd => h.block k hk (fun e => by have := hr k e.symm; omega)⟩
theorem Turn.below {D E B : Nat} {w w' : World} (h : Turn D E w w') (hB : B ≤ w.heap.size) (hD : B ≤ D) : Below B w w' := ⟨h.os, h.tape, h.output, h.size, fun k hk => h.block k (by omega) (.inl (by omega))⟩
/-- p speaks of nothing but the blocks from B on and below C. -/
def Lives (B C : Nat) (p : World → Prop) : Prop := ∀ w w' : World, (∀ k, B ≤ k → k < C → w'.heap[k]? = w.heap[k]?) → p w → p w'
/-- p holds, and speaks of nothing else. -/
structure Holds (B C : Nat) (w : World) (p : World → Prop) : Prop where
  lives : Lives B C p
  le : C ≤ w.heap.size
  now : p w
theorem Holds.step {B C D E : Nat} {w w' : World} {p : World → Prop} (h : Holds B C w p) (ht : Turn D E w w') (hd : C ≤ D ∨ E ≤ B) : Holds B C w' p :=
  ⟨h.lives, Nat.le_trans h.le ht.size, h.lives w w' (fun k h1 h2 => ht.block k (by have := h.le; omega) (by omega)) h.now⟩
theorem Holds.next {B C : Nat} {w w' : World} {p : World → Prop} (h : Holds B C w p) (hb : Below w.heap.size w w') : Holds B C w' p :=
  ⟨h.lives, Nat.le_trans h.le hb.size, h.lives w w' (fun k h1 h2 => hb.block k (by have := h.le; omega)) h.now⟩
theorem Holds.drew {B C : Nat} {w : World} {p : World → Prop} (h : Holds B C w p) : Holds B C w.drew p := ⟨h.lives, h.le, h.lives w w.drew (fun _ _ _ => rfl) h.now⟩
theorem Holds.alloc {B C : Nat} {w : World} {p : World → Prop} (h : Holds B C w p) (o : Obj) : Holds B C (w.alloc o) p := h.next ((Below.refl w.heap.size w).alloc (Nat.le_refl _) o)
/-- Block g holds just these cells. -/
def Cells (g : Nat) (cs : Array Value) (T : TypeId) (w : World) : Prop := w.heap[g]? = some (.cells cs T (0, 0))
theorem cells_lives (g : Nat) (cs : Array Value) (T : TypeId) : Lives g (g + 1) (Cells g cs T) := fun _ _ he h => (he g (Nat.le_refl _) (Nat.lt_succ_self _)).trans h
theorem cells_new (w : World) (cs : Array Value) (T : TypeId) : Holds w.heap.size (w.heap.size + 1) (w.alloc (.cells cs T)) (Cells w.heap.size cs T) := ⟨cells_lives _ _ _, by simp, heap_alloc_new w _⟩
theorem Cells.at {g : Nat} {cs : Array Value} {T : TypeId} {w : World} (h : Cells g cs T w) (i : Nat) : w.cell? ⟨g, i, none⟩ = cs[i]? := by
  unfold Cells at h; simp [World.cell?, h]
theorem Cells.free {g : Nat} {cs : Array Value} {T : TypeId} {w : World} (h : Cells g cs T w) (i : Nat) : w.frozen? ⟨g, i, none⟩ = false := by
  unfold Cells at h; simp [World.frozen?, h]
/-- What a row's owner says, with a ceiling, speaks of the row's block alone. -/
theorem row_lives {B C : Nat} {e : TypeId} {k n : Nat} {v : Value} {xs : List Value} : Lives B C (fun w => w.ownsRow B e k v n xs ∧ ∀ j, v.ownBlock = some j → j < C) := by
  rintro w w' he ⟨⟨h1, h2⟩, h3⟩
  refine ⟨⟨h1, ?_⟩, h3⟩
  rcases h2 with h2 | ⟨g, cap, cur, rfl, hB, hh, r⟩
  · exact .inl h2
  · exact .inr ⟨g, cap, cur, rfl, hB, (he g hB (h3 g rfl)).trans hh, r⟩
/-- The call owns a slice of these triples, between B and C. -/
def OwnC (B C : Nat) (v : Value) (ts : List Tri3) (w : World) : Prop := OwnT B w v ts ∧ ∀ j, v.ownBlock = some j → j < C
theorem ownC_lives {B C : Nat} {v : Value} {ts : List Tri3} : Lives B C (OwnC B C v ts) := row_lives
end Go.Proofs.YtiajdnhmjdfeeaaGreat
