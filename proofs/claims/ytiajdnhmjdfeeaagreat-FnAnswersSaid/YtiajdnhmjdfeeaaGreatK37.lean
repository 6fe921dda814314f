/- Rows that go on through patterns: the program's own.; Rows that make all patterns triples: right graphs, right patterns.; Solutions: the program's own and the specification's. -/
import Derived.Test.YtiajdnhmjdfeeaaGreatK36
import Derived.RangeFuncLeaves
import Derived.Maps.AppendAt
import Derived.Test.YtiajdnhmjdfeeaaGreatK08
import Derived.Test.YtiajdnhmjdfeeaaGreatK12
import Derived.Test.YtiajdnhmjdfeeaaGreatK21
import Derived.Test.YtiajdnhmjdfeeaaGreatK29
namespace Go.Proofs.YtiajdnhmjdfeeaaGreat
open Go.RowKit Go.WideShapes Go.Maps Go.Sort Go.Shelf
attribute [local go_sem] Oper.semAt_some
theorem implJoined (a : Option Addr) (la ca : Nat) (ra : Option Addr) (rn rc : Nat) (p1 p2 p3 : ByteArray) (w : World) :
    Calls Tryz.prog 118 #[.slice a la ca, .slice ra rn rc, .agg #[.string p1, .string p2, .string p3]] w fun e w' => e = .returned (.func (.func 157) #[] #[.pointer (some ⟨w.heap.size + 1, 0, none⟩), .pointer (some ⟨w.heap.size + 1 + 1, 0, none⟩), .pointer (some ⟨w.heap.size, 0, none⟩)]) ∧
      w' = ((w.alloc (.cells #[.slice a la ca] 31)).alloc (.cells #[.slice ra rn rc] 28)).alloc (.cells #[.string p1, .string p2, .string p3] 65) := by
  go_enter Tryz.func118, Tryz.ntmps118
  go_wp2_with fail
  go_ret
  exact ⟨rfl, rfl⟩
/-- The marks of the ranges that are over. -/
def Marks (B : Nat) (w : World) : List Deferred → Prop
  | [] => True
  | d :: ds => ∃ D, d = { target := .collected D, args := #[] } ∧ B ≤ D ∧ w.heap[D]? = some (.deferred (some [])) ∧ (∀ d' ∈ ds, d' ≠ d) ∧ Marks B w ds
theorem Marks.has {B : Nat} {w : World} : ∀ {ds : List Deferred}, Marks B w ds → ∀ d ∈ ds, ∃ D, d = { target := .collected D, args := #[] } ∧ B ≤ D ∧ w.heap[D]? = some (.deferred (some []))
  | _ :: _, ⟨D, h1, h2, h3, _, h5⟩, x, hx => by
    rcases List.mem_cons.1 hx with rfl | hx
    · exact ⟨D, h1, h2, h3⟩
    · exact h5.has x hx
theorem Marks.kept {B : Nat} {w w' : World} : ∀ {ds : List Deferred}, Marks B w ds → (∀ d ∈ ds, ∀ D, d = { target := .collected D, args := #[] } → w.heap[D]? = some (.deferred (some [])) → w'.heap[D]? = some (.deferred (some []))) → Marks B w' ds
  | [], _, _ => trivial
  | d :: _, ⟨D, h1, h2, h3, h4, h5⟩, hk => ⟨D, h1, h2, hk d (List.mem_cons_self ..) D h1 h3, h4, h5.kept (fun x hx => hk x (List.mem_cons_of_mem _ hx))⟩
theorem Marks.next {B : Nat} {w w' : World} {ds : List Deferred} (h : Marks B w ds) (hb : RowKit.Below w.heap.size w w') : Marks B w' ds := h.kept fun _ _ D _ hD => (hb.block D (Array.getElem?_eq_some_iff.1 hD).1).trans hD
theorem Marks.more {B D : Nat} {w : World} {ds : List Deferred} (h : Marks B w ds) (hB : B ≤ D) (hD : w.heap[D]? = some (.deferred (some []))) (hn : ∀ d ∈ ds, ∀ D', d = { target := .collected D', args := #[] } → D' ≠ D) : Marks B w ({ target := .collected D, args := #[] } :: ds) :=
  ⟨D, rfl, hB, hD, fun d' hd' e => hn d' hd' D e rfl, h⟩
theorem leaves_marks {n : Nat} {fn : Func} {tmps : Array Value} {R : Ending → World → Prop} (Fin : World → Prop) (B : Nat) (hF : ∀ W D, Fin W → B ≤ D → W.heap[D]? = some (.deferred (some [])) → Fin (W.putObj D (.deferred none)))
    (hE : ∀ W, Fin W → ∃ v, (results fn tmps).run Tryz.prog W = .ok v W ∧ R (.returned v) W) : ∀ (ds : List Deferred) (w : World), Marks B w ds → Fin w → LeavesInM Fence.wide n Tryz.prog fn tmps R ds .returning w
  | [], w, _, hf => hE w hf
  | d :: ds, w, ⟨D, h1, h2, h3, h4, h5⟩, hf => by
    subst h1
    refine ⟨by simp, .inl ⟨D, _, rfl, run_takeDeferred h3, leaves_marks Fin B hF hE ds _ (h5.kept fun x hx D' e hD' => ?_) (hF w D hf h2 h3)⟩⟩
    have hne : D' ≠ D := fun e2 => h4 x hx (by rw [e, e2])
    first
      | exact (World.putObj_heap_other hne).trans hD'
      | exact (World.putObj_heap_other (Ne.symm hne)).trans hD'
/-- What a round keeps. -/
structure KeepS (Bs n0 : Nat) (A B : World) : Prop where
  typ : ∀ (k : Nat) (cur : Array Value) (T : TypeId), A.heap[k]? = some (Obj.cells cur T (0, 0)) → T = 55 ∨ T = 65 → B.heap[k]? = A.heap[k]?
  low : ∀ (k : Nat), k < n0 → k ≠ Bs → B.heap[k]? = A.heap[k]?
  siz : A.heap.size ≤ B.heap.size
theorem KeepS.trans {Bs n0 : Nat} {A B C : World} (h : KeepS Bs n0 A B) (k : KeepS Bs n0 B C) : KeepS Bs n0 A C := ⟨fun q cur T hq hT => (k.typ q cur T ((h.typ q cur T hq hT).trans hq) hT).trans (h.typ q cur T hq hT), fun j hj hn => (k.low j hj hn).trans (h.low j hj hn), Nat.le_trans h.siz k.siz⟩
theorem KeepS.put {Bs n0 : Nat} (W : World) (l : Nat) (o o' : Obj) (hn : n0 ≤ l) (hl : W.heap[l]? = some o) (ho : o.isCells = false) : KeepS Bs n0 W (W.putObj l o') :=
  have hput : ∀ {k : Nat}, k ≠ l → (W.putObj l o').heap[k]? = W.heap[k]? := fun h => by
    first
      | exact World.putObj_heap_other h
      | exact World.putObj_heap_other (Ne.symm h)
  ⟨fun k cur T hk _ => hput (fun e => by
    rw [e, hl] at hk
    cases hk
    cases ho), fun j hj _ => hput (by omega), by simp⟩
theorem KeepS.grown {Bs n0 : Nat} {A B : World} {row : Option Nat} (hg : A.grownBy B row) (hn : n0 ≤ A.heap.size) (hr : ∀ j, row = some j → n0 ≤ j ∧ ∃ cur, A.heap[j]? = some (Obj.cells cur 50 (0, 0))) : KeepS Bs n0 A B :=
  ⟨fun k cur T hk hT => hg.block k (Array.getElem?_eq_some_iff.1 hk).1 (fun e => by
    obtain ⟨_, c2, h2⟩ := hr k e.symm
    rw [hk] at h2
    cases h2
    rcases hT with hT | hT <;> exact absurd hT (by decide)), fun k hk _ => hg.block k (by omega) (fun e => by have := (hr k e.symm).1; omega), hg.size⟩
theorem KeepS.row {Bs n0 : Nat} {A B : World} {v : Value} {n : Nat} {us : List Value} (h : A.ownsRow n0 50 1 v n us) (hg : A.grownBy B v.ownBlock) (hn : n0 ≤ A.heap.size) : KeepS Bs n0 A B :=
  KeepS.grown hg hn fun j hj => by
    rcases h.2 with ⟨rfl, _⟩ | ⟨g, cap, cur, rfl, hge, hc, _⟩
    · simp [Value.ownBlock] at hj
    · simp [Value.ownBlock] at hj
      subst hj
      exact ⟨hge, cur, hc⟩
theorem KeepS.set {Bs n0 : Nat} {A : World} {v : Value} (u : Value) (h : A.heap[Bs]? = some (Obj.cells #[v] 28 (0, 0))) : KeepS Bs n0 A (A.setCell ⟨Bs, 0, none⟩ u) :=
  ⟨fun k cur T hk hT => Below.heap_setCell A ⟨Bs, 0, none⟩ u k (fun e => by
    rw [show k = Bs from e, h] at hk
    cases hk
    rcases hT with hT | hT <;> exact absurd hT (by decide)), fun k _ hk => Below.heap_setCell A ⟨Bs, 0, none⟩ u k hk, (KeepsOthers.setCell _ _ _).size⟩
theorem KeepS.box {Bs n0 : Nat} {A B : World} (hk : KeepS Bs n0 A B) {k : Nat} {x y z : Value} (h : Box A k x y z 65) : Box B k x y z 65 := (hk.typ k _ _ h (.inr rfl)).trans h
theorem KeepS.rowT {Bs n0 : Nat} {A B : World} (hk : KeepS Bs n0 A B) {u : Value} {r : RowV} (h : RowT A u r) : RowT B u r := h.same fun k cur hc => hk.typ k cur _ hc (.inl rfl)
theorem IsTris.keptL {A B : World} {a : Option Addr} {n c : Nat} {ts : List Tri3} (h : IsTris A a n c ts) (hk : 0 < n → ∀ x, a = some x → B.heap[x.block]? = A.heap[x.block]?) : IsTris B a n c ts := by
  rcases h with h | ⟨x, rfl, h1, h2, h3, h4⟩
  · exact .inl h
  · refine .inr ⟨x, rfl, h1, h2, h3, fun i t hi => ?_⟩
    obtain ⟨c0, c1, c2, w0, w1, w2⟩ := h4 i t hi
    have hx := hk (by have := (List.getElem?_eq_some_iff.1 hi).1; omega) x rfl
    exact ⟨(cell_low (by rw [add_blockJ]; exact hx)).trans c0, (cell_low (by rw [add_blockJ]; exact hx)).trans c1, (cell_low (by rw [add_blockJ]; exact hx)).trans c2, w0, w1, w2⟩
theorem Stat.kept {m Bs n0 bR bP bG : Nat} {ra : Option Addr} {rn rc : Nat} {R : List RowV} {p : Tri3} {a : Option Addr} {la ca : Nat} {gs : List Tri3} {A B : World} (hR : bR < n0 ∧ bR ≠ Bs) (hG : bG < n0 ∧ bG ≠ Bs)
    (hm : m ≤ n0 ∧ m ≤ Bs) (hO : 0 < la → ∀ x, a = some x → x.block < n0 ∧ x.block ≠ Bs) (hk : KeepS Bs n0 A B) (h : Stat m bR bP bG ra rn rc R p a la ca gs A) : Stat m bR bP bG ra rn rc R p a la ca gs B := by
  obtain ⟨⟨h1, h1'⟩, h2, h3, ⟨h4, h4'⟩, h5⟩ := h
  exact ⟨⟨(cell_low (q := ⟨bR, 0, none⟩) (hk.low bR hR.1 hR.2)).trans h1, Nat.lt_of_lt_of_le h1' hk.siz⟩, h2.same (fun k hkm => hk.low k (by omega) (by omega)), hk.box h3, ⟨(cell_low (q := ⟨bG, 0, none⟩) (hk.low bG hG.1 hG.2)).trans h4, Nat.lt_of_lt_of_le h4' hk.siz⟩, h5.keptL (fun h0 x hx => hk.low _ (hO h0 x hx).1 (hO h0 x hx).2)⟩
/-- Rows in a slice of the call's own, each in a block of pairs. -/
def OutT (B : Nat) (w : World) (v : Value) (rs : List RowV) (us : List Value) : Prop :=
  w.ownsRow B 50 1 v rs.length us ∧ us.length = rs.length ∧ (∀ (i : Nat) (u : Value) (r : RowV), us[i]? = some u → rs[i]? = some r → RowT w u r)
theorem OutT.in {B : Nat} {w : World} {v : Value} {rs : List RowV} {us : List Value} (h : OutT B w v rs us) : OutI B w v rs us := ⟨h.1, h.2.1, fun i u r a b => (h.2.2 i u r a b).in⟩
theorem OutT.grownC {B : Nat} {w w' : World} {v : Value} {rs : List RowV} {us : List Value} {row : Option Nat} (h : OutT B w v rs us) (hg : w.grownBy w' row) (hr : ∀ r, row = some r → ∃ o : Obj, w.heap[r]? = some o ∧ o.isCells = false) : OutT B w' v rs us := by
  obtain ⟨ho, hl, hi⟩ := h
  have hne : ∀ (k : Nat) (cur : Array Value) (T : TypeId), w.heap[k]? = some (Obj.cells cur T (0, 0)) → some k ≠ row := fun k cur T hk e => by
    obtain ⟨o, ho', hc⟩ := hr k e.symm
    rw [hk] at ho'
    cases ho'
    cases hc
  refine ⟨ho.kept hg ?_, hl, fun i u r hu hs => (hi i u r hu hs).same fun k cur hk => hg.block k (Array.getElem?_eq_some_iff.1 hk).1 (hne k cur _ hk)⟩
  rcases ho.2 with ⟨rfl, _⟩ | ⟨g, cap, cur, rfl, _, hgb, _⟩
  · exact .inl rfl
  · exact .inr (hne g cur _ hgb)
theorem OutT.snoc {B Bs n0 n : Nat} {A C : World} {v v' u : Value} {rs : List RowV} {us : List Value} {r : RowV} (h : OutT B A v rs us) (hn : rs.length = n) (hk : KeepS Bs n0 A C) (hu : RowT A u r) (ho : C.ownsRow B 50 1 v' (n + 1) (us ++ [u])) : OutT B C v' (rs ++ [r]) (us ++ [u]) := by
  subst hn
  refine ⟨by simpa using ho, by simp [h.2.1], fun i x y hx hy => ?_⟩
  rcases Nat.lt_or_ge i rs.length with g | g
  · rw [List.getElem?_append_left (by rw [h.2.1]; exact g)] at hx
    rw [List.getElem?_append_left g] at hy
    exact hk.rowT (h.2.2 i x y hx hy)
  · have e : i = rs.length := by have := (List.getElem?_eq_some_iff.1 hy).1; simp at this; omega
    subst e
    rw [← h.2.1] at hx
    simp at hx hy
    subst hx; subst hy
    exact hk.rowT hu
/-- A box of one value. -/
def Bx (w : World) (k : Nat) (v : Value) (T : TypeId) : Prop := w.heap[k]? = some (.cells #[v] T (0, 0))
theorem Bx.new (w : World) (v : Value) (T : TypeId) : Bx (w.alloc (.cells #[v] T)) w.heap.size v T := heap_alloc_new w _
theorem Bx.next {w w' : World} {k : Nat} {v : Value} {T : TypeId} (h : Bx w k v T) (hb : RowKit.Below w.heap.size w w') : Bx w' k v T := (hb.block k (Array.getElem?_eq_some_iff.1 h).1).trans h
def ContPost (gs ls : List Tri3) (r0 : RowV) (w : World) (e : Ending) (w' : World) : Prop :=
  ∃ x n c, e = .returned (.tuple #[.slice x n c, .bool (contM gs ls [r0]).isSome]) ∧ IsRows w' x n c ((contM gs ls [r0]).getD []) ∧ RowKit.Below w.heap.size w w'
theorem Bx.cell {w : World} {k : Nat} {v : Value} {T : TypeId} (h : Bx w k v T) : w.cell? ⟨k, 0, none⟩ = some v ∧ w.frozen? ⟨k, 0, none⟩ = false := by
  unfold Bx at h
  simp [World.cell?, World.frozen?, h]
theorem Bx.set {w : World} {k : Nat} {v : Value} {T : TypeId} (h : Bx w k v T) (u : Value) : Bx (w.setCell ⟨k, 0, none⟩ u) k u T := by
  unfold Bx at h ⊢; simp [World.setCell, Array.getElem?_modify, h]
theorem Bx.far {w : World} {k : Nat} {v : Value} {T : TypeId} (h : Bx w k v T) {q : Addr} (hq : k ≠ q.block) (u : Value) : Bx (w.setCell q u) k v T := (Below.heap_setCell w q u k hq).trans h
theorem own_bx_ne {B n g : Nat} {w : World} {v x : Value} {us : List Value} {T : TypeId} (h : w.ownsRow B 50 1 v n us) (hb : Bx w g x T) (hT : T ≠ 50) : v.ownBlock ≠ some g := by
  intro e
  rcases h.2 with ⟨rfl, _⟩ | ⟨g', cap, cur, rfl, _, hg, _⟩
  · simp [Value.ownBlock] at e
  · simp [Value.ownBlock] at e
    subst e
    unfold Bx at hb
    rw [hb] at hg
    simp only [Option.some.injEq, Obj.cells.injEq] at hg
    exact hT hg.2.1
theorem Marks.ne {k : Nat} {w : World} {ds : List Deferred} {v : Value} {T : TypeId} (h : Bx w k v T) : ∀ d ∈ ds, ∀ D, d = { target := .collected D, args := #[] } → w.heap[D]? = some (.deferred (some [])) → D ≠ k := fun d _ D _ hD e => by
  subst e
  unfold Bx at h
  rw [h] at hD
  cases hD
theorem Marks.far {B : Nat} {w : World} {ds : List Deferred} (h : Marks B w ds) {k : Nat} {v : Value} {T : TypeId} (hb : Bx w k v T) (u : Value) : Marks B (w.setCell ⟨k, 0, none⟩ u) ds :=
  h.kept fun d hd D e hD => (Below.heap_setCell w ⟨k, 0, none⟩ u D (Marks.ne hb d hd D e hD)).trans hD
/-- Between two rounds. -/
def MidI (Bs : Nat) (w wj : World) (pre : List RowV) (W : World) : Prop :=
  (∃ v us, Bx W Bs v 28 ∧ OutT wj.heap.size W v pre us) ∧ pre.length ≤ 300 ∧ (∀ k, k < wj.heap.size → k ≠ Bs → W.heap[k]? = wj.heap[k]?) ∧ RowKit.Below w.heap.size w W
def MidX (w : World) (ds : List Deferred) (pre : List RowV) (W : World) : Prop :=
  pre.length = 301 ∧ Bx W w.heap.size (.slice none 0 0) 28 ∧ Bx W (w.heap.size + 1) (.bool false) 4 ∧ Marks w.heap.size W ds ∧ RowKit.Below w.heap.size w W
theorem MidI.own {Bs : Nat} {w wj : World} (hB : Bs < wj.heap.size) (hw : w.heap.size ≤ wj.heap.size) : OwnFrom wj.heap.size (MidI Bs w wj) := by
  intro pre W W' row h hg hr
  obtain ⟨⟨v, us, hb, ho⟩, hl, hlow, hbl⟩ := h
  refine ⟨⟨v, us, ?_, ho.grownC hg (fun r e => (hr r e).2)⟩, hl, fun k hk hne => ?_, hbl.grown hg hbl.size (fun r e => by have := (hr r e).1; omega)⟩
  · refine (hg.block Bs (Array.getElem?_eq_some_iff.1 hb).1 (fun e => ?_)).trans hb
    have := (hr Bs e.symm).1; omega
  · rcases Nat.lt_or_ge k W.heap.size with g | g
    · exact (hg.block k g (fun e => by have := (hr k e.symm).1; omega)).trans (hlow k hk hne)
    · exfalso
      have h1 := hlow k hk hne
      rw [Array.getElem?_eq_getElem hk, Array.getElem?_eq_none (by omega)] at h1
      cases h1
theorem MidX.own {w : World} {ds : List Deferred} {n0 : Nat} (hw : w.heap.size + 1 < n0) (hm : ∀ d ∈ ds, ∀ D, d = { target := .collected D, args := #[] } → D < n0) : OwnFrom n0 (MidX w ds) := by
  intro pre W W' row h hg hr
  obtain ⟨hl, h6, h7, hM, hbl⟩ := h
  have keep : ∀ {k : Nat} {o : Obj}, k < n0 → W.heap[k]? = some o → W'.heap[k]? = some o := fun hk ho => (hg.block _ (Array.getElem?_eq_some_iff.1 ho).1 (fun e => by have := (hr _ e.symm).1; omega)).trans ho
  exact ⟨hl, keep (by omega) h6, keep (by omega) h7, hM.kept (fun d hd D e hD => keep (hm d hd D e) hD), hbl.grown hg hbl.size (fun r e => by have := (hr r e).1; omega)⟩
/-- Rows at a stage. -/
def GoodK (m : Nat) (r : RowV) : Prop := Asc r ∧ PlainV r ∧ (∀ u ∈ r, u.2.data.toList ≠ []) ∧ r.length ≤ m ∧ SmP r
theorem GoodK.good {m : Nat} {r : RowV} (h : GoodK m r) (hm : m ≤ 1000) : GoodR r := ⟨h.1, h.2.1, h.2.2.1, Nat.le_trans h.2.2.2.1 hm, h.2.2.2.2⟩
theorem GoodK.join {m : Nat} {R : List RowV} {gs : List Tri3} {p : Tri3} (h : ∀ r ∈ R, GoodK m r) (hga : SmT gs) (hp : p.1.size ≤ 1048576 ∧ p.2.1.size ≤ 1048576 ∧ p.2.2.size ≤ 1048576)
    (hgt : ∀ t ∈ gs, (isVarK t.1.data.toList = false ∧ isVarK t.2.1.data.toList = false ∧ isVarK t.2.2.data.toList = false) ∧ t.1.data.toList ≠ [] ∧ t.2.1.data.toList ≠ [] ∧ t.2.2.data.toList ≠ []) : ∀ r ∈ joinM gs p R, GoodK (m + 3) r := by
  intro r hr
  obtain ⟨q, hq, t, ht, e⟩ := joinM_mem.1 hr
  obtain ⟨h1, h2, h3, h4, h5⟩ := h q hq
  obtain ⟨g1, g2, g3, g4⟩ := hgt t ht
  refine ⟨matchM_asc h1 e, matchM_plain h2 g1 e, fun u hu => ?_, by have := matchM_len e; omega, matchM_small h5 hp (hga t ht) e⟩
  rcases matchM_mem e hu with hu | ⟨_, rfl | rfl | rfl⟩
  · exact h3 u hu
  · exact g2
  · exact g3
  · exact g4
theorem contM_next {g : List Tri3} {ls : List Tri3} {p : Tri3} {R : List RowV} {i : Nat} (hp : ls[i]? = some p) (h : (joinM g p R).length ≤ 300) : contM g (ls.drop i) R = contM g (ls.drop (i + 1)) (joinM g p R) := by
  have hl := (List.getElem?_eq_some_iff.1 hp).1
  rw [List.drop_eq_getElem_cons hl]
  rw [List.getElem?_eq_getElem hl] at hp
  rw [Option.some.inj hp]
  conv => lhs; unfold contM
  rw [if_pos h]
theorem contM_over {g : List Tri3} {ls : List Tri3} {p : Tri3} {R : List RowV} {i : Nat} (hp : ls[i]? = some p) (h : 300 < (joinM g p R).length) : contM g (ls.drop i) R = none := by
  have hl := (List.getElem?_eq_some_iff.1 hp).1
  rw [List.drop_eq_getElem_cons hl]
  rw [List.getElem?_eq_getElem hl] at hp
  rw [Option.some.inj hp]
  unfold contM
  rw [if_neg (by omega)]
theorem IsPres.keptV {A B : World} {a : Option Addr} {n c : Nat} {ts : List Pre2} (h : IsPres A a n c ts) (hk : ∀ q v, A.cell? q = some v → B.cell? q = some v) : IsPres B a n c ts := by
  rcases h with h | ⟨x, rfl, h1, h2, h3, h4⟩
  · exact .inl h
  · exact .inr ⟨x, rfl, h1, h2, h3, fun i t hi => by
      obtain ⟨c0, c1, w0, w1⟩ := h4 i t hi
      exact ⟨hk _ _ c0, hk _ _ c1, w0, w1⟩⟩
theorem IsRows.keptV {A B : World} {a : Option Addr} {n c : Nat} {rs : List RowV} (h : IsRows A a n c rs) (hk : ∀ q v, A.cell? q = some v → B.cell? q = some v) : IsRows B a n c rs := by
  rcases h with h | ⟨x, rfl, h1, h2, h3, h4⟩
  · exact .inl h
  · exact .inr ⟨x, rfl, h1, h2, h3, fun i r hi => by
      obtain ⟨a', n', c', c0, hp⟩ := h4 i r hi
      exact ⟨a', n', c', hk _ _ c0, hp.keptV hk⟩⟩
/-- Rows that lie in neither of two blocks. -/
def FarR (m : Nat) (W : World) (ra : Option Addr) (rn rc : Nat) (R : List RowV) : Prop := ∀ V : World, (∀ k, k ≠ m → k ≠ m + 1 → V.heap[k]? = W.heap[k]?) → IsRows V ra rn rc R
theorem FarR.is {m : Nat} {W : World} {ra : Option Addr} {rn rc : Nat} {R : List RowV} (h : FarR m W ra rn rc R) : IsRows W ra rn rc R := h W fun _ _ _ => rfl
theorem FarR.one {w W : World} {s : Option Addr} {sn sc : Nat} {r0 : RowV} (hs : IsPres w s sn sc r0) (hb : RowKit.Below w.heap.size w W) (hc : W.cell? ⟨w.heap.size + 1 + 1, 0, none⟩ = some (.slice s sn sc)) : FarR w.heap.size W (some ⟨w.heap.size + 1 + 1, 0, none⟩) 1 1 [r0] := by
  intro V hV
  refine .inr ⟨_, rfl, Nat.le_refl _, by unfold maxLen; omega, rfl, fun i r hi => ?_⟩
  have hi0 : i = 0 := by have := (List.getElem?_eq_some_iff.1 hi).1; simp at this; exact this
  subst hi0
  simp at hi
  subst hi
  refine ⟨s, sn, sc, ?_, (LowP.same (A := w) (m := w.heap.size) ⟨hs, hs.lowB⟩ (fun k hk => (hV k (by omega) (by omega)).trans (hb.block k hk))).1⟩
  rw [add_plain]
  exact (cell_low (hV (w.heap.size + 1 + 1) (by omega) (by omega))).trans hc
theorem OutT.far {B m : Nat} {W : World} {a : Option Addr} {n c : Nat} {rs : List RowV} {us : List Value} {x y : Value} (h : OutT B W (.slice a n c) rs us) (hn : rs.length = n) (hm : m + 1 < B) (h6 : Bx W m x 28) (h7 : Bx W (m + 1) y 4) : FarR m W a n c rs := by
  intro V hV
  have h' : OutT B V (.slice a n c) rs us := by
    refine ⟨⟨h.1.1, ?_⟩, h.2.1, fun i u r hu hr => (h.2.2 i u r hu hr).same fun k cur hk => hV k (fun e => ?_) (fun e => ?_)⟩
    · rcases h.1.2 with h | ⟨g, cap, cur, e, hge, hg, hrest⟩
      · exact .inl h
      · exact .inr ⟨g, cap, cur, e, hge, (hV g (by omega) (by omega)).trans hg, hrest⟩
    · unfold Bx at h6
      rw [e, h6] at hk
      simp only [Option.some.injEq, Obj.cells.injEq] at hk
      exact absurd hk.2.1 (by decide)
    · unfold Bx at h7
      rw [e, h7] at hk
      simp only [Option.some.injEq, Obj.cells.injEq] at hk
      exact absurd hk.2.1 (by decide)
  obtain ⟨a', c', e, hr⟩ := h'.in.is
  rw [hn] at e hr
  cases e
  exact hr
/-- What stands when the call leaves. -/
def FinW (w : World) (x : Option Addr) (n c : Nat) (R : List RowV) (ok : Bool) (W : World) : Prop :=
  Bx W w.heap.size (.slice x n c) 28 ∧ Bx W (w.heap.size + 1) (.bool ok) 4 ∧ IsRows W x n c R ∧ RowKit.Below w.heap.size w W
theorem FinW.put {w : World} {x : Option Addr} {n c : Nat} {R : List RowV} {ok : Bool} (W : World) (D : Nat) (h : FinW w x n c R ok W) (hD : w.heap.size ≤ D) (hd : W.heap[D]? = some (.deferred (some []))) : FinW w x n c R ok (W.putObj D (.deferred none)) := by
  obtain ⟨h6, h7, hr, hb⟩ := h
  have hput : ∀ {k : Nat}, k ≠ D → (W.putObj D (.deferred none)).heap[k]? = W.heap[k]? := fun h => by
    first
      | exact World.putObj_heap_other h
      | exact World.putObj_heap_other (Ne.symm h)
  have hne : ∀ {k : Nat} {v : Value} {T : TypeId}, Bx W k v T → k ≠ D := fun hb e => by
    unfold Bx at hb
    rw [e, hd] at hb
    cases hb
  refine ⟨(hput (hne h6)).trans h6, (hput (hne h7)).trans h7, hr.keptV (fun q v hq => ?_), hb.grown (grownBy_putObj' W D _) hb.size (fun r e => by cases e; exact hD)⟩
  rw [← hq]
  refine cell_low (hput (fun e => ?_))
  unfold World.cell? at hq
  rw [e, hd] at hq
  cases hq
set_option maxRecDepth 100000 in
set_option maxHeartbeats 6400000 in
theorem implContinued (n : Nat) (hn : 7 ≤ n) (a b s : Option Addr) (la ca lb cb sn sc : Nat) (gs ls : List Tri3) (r0 : RowV) (w : World) (ha : IsTris w a la ca gs) (hb : IsTris w b lb cb ls) (hs : IsPres w s sn sc r0) (hla : la ≤ 80) (hlb : lb ≤ 4) (hsn : sn ≤ 12) (hga : SmT gs) (hgb : SmT ls) (hr0 : GoodR r0)
    (hgt : ∀ t ∈ gs, (isVarK t.1.data.toList = false ∧ isVarK t.2.1.data.toList = false ∧ isVarK t.2.2.data.toList = false) ∧ t.1.data.toList ≠ [] ∧ t.2.1.data.toList ≠ [] ∧ t.2.2.data.toList ≠ []) (hlt : ∀ p ∈ ls, p.1.data.toList ≠ [] ∧ p.2.1.data.toList ≠ [] ∧ p.2.2.data.toList ≠ []) :
    CallsIn Fence.wide n Tryz.prog 75 #[.slice a la ca, .slice s sn sc, .slice b lb cb] w (ContPost gs ls r0 w) := by
  have HA := Lib.hid ha
  have HB := Lib.hid hb
  have HS := Lib.hid hs
  have HGB := Lib.hid hgb
  have HLB := Lib.hid hb.len
  obtain ⟨RES, hRES⟩ : ∃ x, contM gs ls [r0] = x := ⟨_, rfl⟩
  have HRES := Lib.hid hRES
  unfold ContPost
  rw [hRES]
  clear hRES ha hb hgb
  have G6 := Bx.new w (.slice none 0 0) 28
  have B1 := (Below.refl w.heap.size w).alloc (Nat.le_refl _) (.cells #[.slice none 0 0] 28)
  refine callsIn_of_wp_marks Tryz.func75 rfl trivial ?_ rfl
  simp only [Tryz.ntmps75, List.size_toArray, List.length_cons, List.length_nil, Nat.reduceAdd, Nat.reduceSub, Array.replicate_succ, Array.replicate_zero, List.push_toArray, List.append_toArray, List.nil_append, List.cons_append]
  gi_wp2
  have B2 := B1.alloc B1.size (.cells #[.bool false] 4)
  have G7 := Bx.new (w.alloc (.cells #[.slice none 0 0] 28)) (.bool false) 4
  have G6' := G6.next ((Below.refl _ _).alloc (Nat.le_refl _) (.cells #[.bool false] 4))
  rw [World.size_alloc] at G7
  have b3 := (Below.refl ((w.alloc (.cells #[.slice none 0 0] 28)).alloc (.cells #[.bool false] 4)).heap.size ((w.alloc (.cells #[.slice none 0 0] 28)).alloc (.cells #[.bool false] 4))).alloc (Nat.le_refl _) (.cells #[.slice s sn sc] 50)
  have B3 := B2.alloc B2.size (.cells #[.slice s sn sc] 50)
  have G6'' := Lib.hid (G6'.next b3)
  have G7'' := Lib.hid (G7.next b3)
  have IR := Bx.new ((w.alloc (.cells #[.slice none 0 0] 28)).alloc (.cells #[.bool false] 4)) (.slice s sn sc) 50
  rw [World.size_alloc, World.size_alloc] at IR
  have HIR := Lib.hid (FarR.one hs B3 IR.cell.1)
  have hsl := hs.len
  clear G6 G6' G7 IR b3 B1 B2 hs
  generalize ((w.alloc (.cells #[.slice none 0 0] 28)).alloc (.cells #[.bool false] 4)).alloc (.cells #[.slice s sn sc] 50) = w0 at G6'' G7'' HIR B3 ⊢
  refine wpIn_loop (fun (act : Act) (W' : World) => ∃ (u10 u11 u12 u18 u19 u20 u21 u22 u23 u24 u25 u26 u27 u28 u29 u30 u31 u32 u33 u34 : Value) (ds : List Deferred) (k : Nat) (ra : Option Addr) (rn rc : Nat) (R : List RowV), act = { tmps := #[.slice a la ca, .slice s sn sc, .slice b lb cb, undef, undef, undef, .pointer (some ⟨w.heap.size, 0, none⟩), .pointer (some ⟨w.heap.size + 1, 0, none⟩), .slice ra rn rc, undef, u10, u11, u12, .slice s sn sc, .slice (some ⟨w.heap.size + 1 + 1, 0, none⟩) 1 1, .slice b lb cb, .int .i64 lb, .int .i64 k, u18, u19, u20, u21, u22, u23, u24, u25, u26, u27, u28, u29, u30, u31, u32, u33, u34, undef], defers := ds } ∧ k ≤ lb ∧ rn ≤ 300 ∧ Hid (FarR w.heap.size W' ra rn rc R ∧ contM gs (ls.drop k) R = RES ∧ ∀ r ∈ R, GoodK (12 + 3 * k) r) ∧ Hid (Bx W' w.heap.size (.slice none 0 0) 28) ∧ Hid (Bx W' (w.heap.size + 1) (.bool false) 4) ∧ Hid (Marks w.heap.size W' ds) ∧ RowKit.Below w.heap.size w W') (fun act _ => lb - (intOf (act.tmps.getD 17 undef)).toNat) ?start ?round
  case start =>
    exact ⟨undef, undef, undef, undef, undef, undef, undef, undef, undef, undef, undef, undef, undef, undef, undef, undef, undef, undef, undef, undef, [], 0, _, 1, 1, [r0], rfl, Nat.zero_le _, by omega, Lib.hid ⟨HIR.out, by rw [List.drop_zero]; exact HRES.out, fun r hr => by
      obtain rfl : r = r0 := by simpa using hr
      exact ⟨hr0.1, hr0.2.1, hr0.2.2.1, by omega, hr0.2.2.2.2⟩⟩, G6'', G7'', Lib.hid trivial, B3⟩
  case round =>
    rintro act wr ⟨u10, u11, u12, u18, u19, u20, u21, u22, u23, u24, u25, u26, u27, u28, u29, u30, u31, u32, u33, u34, ds, k, ra, rn, rc, R, rfl, hk, hrn, HR, H6, H7, HM, hnx⟩
    clear G6'' G7'' HIR B3
    by_cases hkl : k < lb
    · obtain ⟨pb, po, rfl, hpb, _, _, hts, hcs⟩ := HB.out.cells (by omega)
      have ht : ls[k]? = some (ls[k]'(by omega)) := List.getElem?_eq_getElem (by omega)
      obtain ⟨q1, q2, q3, q4⟩ := hcs k _ ht
      have hps := HGB.out _ (List.getElem_mem (by omega : k < ls.length))
      have hpe := hlt _ (List.getElem_mem (by omega : k < ls.length))
      clear q4
      generalize ls[k]'(by omega) = p at ht q1 q2 q3 hps hpe
      obtain ⟨p1, p2, p3⟩ := p
      dsimp only at q1 q2 q3 hps hpe
      rw [← hnx.cell (p := ⟨pb, _, none⟩) hpb] at q1 q2 q3
      have HPT := Lib.hid ht
      have CJ := Lib.hid (fun W' => (callsIn_wide (n := n - 1)).2 (implJoined a la ca ra rn rc p1 p2 p3 W'))
      clear ht hts hcs
      have HW := Lib.hid hnx.size
      obtain ⟨jb, hjb⟩ : ∃ jb, wr.heap.size + 1 + 1 = jb := ⟨_, rfl⟩
      have E0 : RowKit.Below wr.heap.size wr ((wr.alloc (.cells #[.string p1, .string p2, .string p3] 65)).alloc (.cells #[.slice none 0 0] 28)) := ((Below.refl _ _).alloc (Nat.le_refl _) _).alloc (by simp) _
      have X0 := Bx.new (wr.alloc (.cells #[.string p1, .string p2, .string p3] 65)) (.slice none 0 0) 28
      rw [World.size_alloc] at X0
      have Z0 : ((wr.alloc (.cells #[.string p1, .string p2, .string p3] 65)).alloc (.cells #[.slice none 0 0] 28)).heap.size = jb := by simp [hjb]
      gi_wp2_with fail
      refine ⟨trivial, fun _ => by omega, (CJ.out _).mono ?_⟩
      rintro e w2 ⟨rfl, rfl⟩
      rw [Z0]
      generalize (wr.alloc (.cells #[.string p1, .string p2, .string p3] 65)).alloc (.cells #[.slice none 0 0] 28) = w1 at E0 X0 Z0 ⊢
      obtain ⟨wj, hwj⟩ : ∃ wj, ((w1.alloc (.cells #[.slice a la ca] 31)).alloc (.cells #[.slice ra rn rc] 28)).alloc (.cells #[.string p1, .string p2, .string p3] 65) = wj := ⟨_, rfl⟩
      have Ej : RowKit.Below w1.heap.size w1 wj := by rw [← hwj]; exact (((Below.refl _ _).alloc (Nat.le_refl _) _).alloc (by simp) _).alloc (by simp; omega) _
      have Zj : wj.heap.size = jb + 3 := by rw [← hwj]; simp; omega
      have Er : RowKit.Below wr.heap.size wr wj := E0.trans (Ej.mono E0.size)
      have Bj := hnx.trans (Er.mono hnx.size)
      have SJ : Stat wr.heap.size (jb + 1) (jb + 1 + 1) jb ra rn rc R (p1, p2, p3) a la ca gs wj := by
        have g1 := Bx.new w1 (.slice a la ca) 31
        have g2 := Bx.new (w1.alloc (.cells #[.slice a la ca] 31)) (.slice ra rn rc) 28
        have g3 := Box.new ((w1.alloc (.cells #[.slice a la ca] 31)).alloc (.cells #[.slice ra rn rc] 28)) (.string p1) (.string p2) (.string p3) 65
        have b1 := ((Below.refl (w1.alloc (.cells #[.slice a la ca] 31)).heap.size (w1.alloc (.cells #[.slice a la ca] 31))).alloc (Nat.le_refl _) (.cells #[.slice ra rn rc] 28)).alloc (by simp) (.cells #[.string p1, .string p2, .string p3] 65)
        have b2 := (Below.refl ((w1.alloc (.cells #[.slice a la ca] 31)).alloc (.cells #[.slice ra rn rc] 28)).heap.size ((w1.alloc (.cells #[.slice a la ca] 31)).alloc (.cells #[.slice ra rn rc] 28))).alloc (Nat.le_refl _) (.cells #[.string p1, .string p2, .string p3] 65)
        have g1' := g1.next b1
        have g2' := g2.next b2
        rw [hwj] at g1' g2' g3
        rw [World.size_alloc, Z0] at g2'
        rw [World.size_alloc, World.size_alloc, Z0] at g3
        rw [Z0] at g1'
        exact ⟨⟨g2'.cell.1, by omega⟩, HR.out.1.is.q.same (fun k hk => Er.block k hk), g3, ⟨g1'.cell.1, by omega⟩, HA.out.next Bj⟩
      have XJ := X0.next Ej
      have HOA : Hid (0 < la → ∀ x, a = some x → x.block < w.heap.size) := Lib.hid (fun h0 x hx => by
        obtain ⟨b9, o9, e9, hb9, _⟩ := HA.out.cells h0
        rw [hx] at e9
        cases e9
        exact hb9)
      rw [hwj]
      have hBs : wr.heap.size + 1 < wj.heap.size := by omega
      generalize hbs : wr.heap.size + 1 = Bs at XJ hBs hjb ⊢
      have HN : Hid (wj.heap.size = jb + 3 ∧ Bs + 1 = jb ∧ wr.heap.size + 1 = Bs ∧ w.heap.size + 1 < wr.heap.size) := Lib.hid ⟨Zj, hjb, hbs, (Array.getElem?_eq_some_iff.1 H7.out).1⟩
      have HSJ := Lib.hid SJ
      have HXJ := Lib.hid XJ
      have HBJ := Lib.hid Bj
      have HEr := Lib.hid Er
      clear SJ XJ Bj Er Ej E0 X0 hwj Z0 q1 q2 q3 CJ Zj hjb hbs
      gi_wp2_with fail
      have hGR : ∀ r ∈ R, GoodR r := fun r hr => (HR.out.2.2 r hr).good (by have := HN.out; omega)
      have hwn : w.heap.size + 1 < wj.heap.size := by have := HN.out; omega
      have HMD : Hid (∀ d ∈ ds, ∀ D, d = { target := .collected D, args := #[] } → D < wj.heap.size) := Lib.hid (fun d hd D e => by
        obtain ⟨D', e', _, hD'⟩ := HM.out.has d hd
        rw [e] at e'
        simp only [Deferred.mk.injEq, Target.collected.injEq, and_true] at e'
        subst e'
        have := (Array.getElem?_eq_some_iff.1 hD').1
        have := HEr.out.size
        omega)
      refine rangeTold (n := n) (by have := HN.out; omega) rfl (enters_of Tryz.func157 (by kernel_rfl) rfl) rfl (KeepS Bs wj.heap.size) (joinM gs (p1, p2, p3) R) (MidI Bs w wj) (MidX w ds) (fun u => { tmps := #[.slice a la ca, .slice s sn sc, .slice (some ⟨pb, po, none⟩) lb cb, undef, undef, undef, .pointer (some ⟨w.heap.size, 0, none⟩), .pointer (some ⟨w.heap.size + 1, 0, none⟩), .slice ra rn rc, undef, .pointer (some ⟨wr.heap.size, 0, none⟩), .pointer (some ⟨Bs, 0, none⟩), u, .slice s sn sc, .slice (some ⟨w.heap.size + 1 + 1, 0, none⟩) 1 1, .slice (some ⟨pb, po, none⟩) lb cb, .int .i64 lb, .int .i64 k, .bool true, .pointer (some ⟨pb, po + k * 3, none⟩), .agg #[.string p1, .string p2, .string p3], .slice a la ca, .slice ra rn rc, .agg #[.string p1, .string p2, .string p3], .func (.func 157) #[] #[.pointer (some ⟨jb + 1, 0, none⟩), .pointer (some ⟨jb + 1 + 1, 0, none⟩), .pointer (some ⟨jb, 0, none⟩)], u, u26, u27, u28, u29, u30, u31, u32, u33, u34, undef], defers := [] }) ?run (fun h k => h.trans k) (fun W l o o' h1 h2 h3 => KeepS.put W l o o' h1 h2 h3) (MidI.own hBs (by have := HN.out; omega)) (MidX.own hwn HMD.out) ?h0 ?assign ?body ?done ?stop
      case run =>
        intro l J Jx W hW hJb hY hJ0
        exact joinedRun (n - 1) (by have := HN.out; omega) wr.heap.size l (jb + 1) (jb + 1 + 1) jb ra rn rc R (p1, p2, p3) a la ca gs (KeepS Bs wj.heap.size) J Jx hGR hpe hps hga (by have := HN.out; omega) (by have := HN.out; omega)
          (fun A B hk h => Stat.kept (Bs := Bs) (n0 := wj.heap.size) (bR := jb + 1) (bP := jb + 1 + 1) (bG := jb) (by have := HN.out; omega) (by have := HN.out; omega) (by have := HN.out; omega) (fun h0 x hx => by have := HOA.out h0 x hx; have := HN.out; omega) hk h)
          (fun A B k hk hkm => hk.low k (by have := HN.out; omega) (by have := HN.out; omega)) (fun A B k x y z hk h => hk.box h) hJb hY W (by have := hW.size; have := HN.out; omega) (HSJ.out.next (by have := HN.out; omega) hW) hJ0 (fun A B hk => hk.siz)
      case h0 => exact ⟨⟨_, [], HXJ.out, World.ownsRow_nil .., rfl, by simp⟩, by simp, fun _ _ _ => rfl, HBJ.out⟩
      case assign =>
        intro l u W K hK
        gi_wp2
        exact hK
      case body =>
        rintro l pre u r W ⟨⟨v, us, hb, ho⟩, hpl, hlow, hbl⟩ hu
        obtain ⟨ua, un, uc, rfl, hu0, hu1⟩ := hu
        obtain ⟨va, vc, rfl, _⟩ := ho.in.is
        obtain ⟨c0, f0⟩ := hb.cell
        by_cases h3 : pre.length = 300
        · have b6 : Bx W w.heap.size (.slice none 0 0) 28 := (hlow w.heap.size (by have := HN.out; omega) (by have := HN.out; omega)).trans (H6.out.next HEr.out)
          have b7 : Bx W (w.heap.size + 1) (.bool false) 4 := (hlow (w.heap.size + 1) (by have := HN.out; omega) (by have := HN.out; omega)).trans (H7.out.next HEr.out)
          obtain ⟨c6, f6⟩ := b6.cell
          obtain ⟨c7, f7⟩ := b7.cell
          have hMW : Marks w.heap.size W ds := (HM.out.next HEr.out).kept fun d hd D e hD => (hlow D (HMD.out d hd D e) (Marks.ne HXJ.out d hd D e hD)).trans hD
          rw [h3] at c0
          gi_wp2
          refine ⟨(KeepsOthers.setCell _ _ _).trans (KeepsOthers.setCell _ _ _), rfl, by simp [h3], ?_, ?_, ?_, ?_⟩
          · exact (b6.set _).far (by simp) _
          · exact (b7.far (by simp) _).set _
          · exact (hMW.far b6 _).far (b7.far (by simp) _) _
          · exact (hbl.setCell (p := ⟨w.heap.size, 0, none⟩) (Nat.le_refl _) _).setCell (p := ⟨w.heap.size + 1, 0, none⟩) (Nat.le_succ _) _
        · obtain ⟨i0, hi, hz0, hz1, hz2⟩ := info_parts infoRow
          have hT : (28 : TypeId) ≠ 50 := by decide
          have hne := own_bx_ne ho.1 hb hT
          have hn8 : ¬ (pre.length : Int) = 300 := by omega
          have HO := Lib.hid ho
          have HBX := Lib.hid hb
          have HRI : Hid (RowT W (.slice ua un uc) r) := Lib.hid ⟨ua, un, uc, rfl, hu0, hu1⟩
          have HRO := Lib.hid ho.1
          have HLO := Lib.hid hlow
          have HBL := Lib.hid hbl
          have hwz := hbl.size
          have hjz : wj.heap.size ≤ W.heap.size := by
            rcases Nat.lt_or_ge W.heap.size wj.heap.size with g | g
            · exfalso
              have h1 := hlow (wj.heap.size - 1) (by have := HN.out; omega) (by have := HN.out; omega)
              have h2 : wj.heap[wj.heap.size - 1]? = some (wj.heap[wj.heap.size - 1]'(by have := HN.out; omega)) := Array.getElem?_eq_getElem _
              rw [h2] at h1
              have := (Array.getElem?_eq_some_iff.1 h1).1
              have := HN.out
              omega
            · exact g
          have hro := World.ownsRow.alloc ho.1 (.cells #[.slice ua un uc] 50)
          generalize hpn : pre.length = pn at h3 hn8 c0 hro hpl hne HBX HO ⊢
          have HPN := Lib.hid hpn
          clear hpn
          have HRW := Lib.hid hro
          clear ho hb hu0 hu1 hlow hbl
          gi_wp2_with (gi_at_builtin; refine wpListIn_append_own _ rfl _ _ 28 rfl wj.heap.size 50 i0 (.slice none 0 0) 1 24 Tryz.underlying28 hi hz0 hz1 hz2 rfl (by decide) _ _ _ rfl hro ⟨W.heap.size, 0, none⟩ 1 1 [.slice ua un uc] rfl rfl (one_cellV rfl) (one_slice _ _ _) (by unfold maxLen; omega) (by omega) (by simp; omega) ?_; intro v' w3 hown hg3 _; obtain ⟨g', cap', rfl⟩ := own_someR hown (by omega); have hb3 : Bx w3 Bs _ 28 := (hg3.block Bs (by simp; omega) (fun e => hne e.symm)).trans ((Below.heap_alloc _ _ Bs (by omega)).trans HBX.out); obtain ⟨c3, f3⟩ := hb3.cell; have HOWN := Lib.hid hown; have HG3 : Hid ((W.alloc (.cells #[.slice ua un uc] 50)).grownBy w3 (Value.slice va pn vc).ownBlock) := Lib.hid hg3; have HB3 := Lib.hid hb3)
          have kA : KeepS Bs wj.heap.size W (W.alloc (.cells #[.slice ua un uc] 50)) := KeepS.grown (World.grownBy_alloc W _ none) hjz (fun j hj => by cases hj)
          have k3 : KeepS Bs wj.heap.size W w3 := kA.trans (KeepS.row HRW.out HG3.out (by simp; omega))
          have kS := k3.trans (KeepS.set (n0 := wj.heap.size) (.slice (some ⟨g', 0, none⟩) (pn + 1) cap') HB3.out)
          have hne3 := own_bx_ne HOWN.out HB3.out hT
          have hoS := HOWN.out.kept (grownBy_setCell' w3 Bs (.slice (some ⟨g', 0, none⟩) (pn + 1) cap')) (.inr hne3)
          have hb3W : RowKit.Below w.heap.size w w3 := (HBL.out.alloc hwz _).grown HG3.out (by simp; omega) (fun j hj => by have := (HRW.out.lt j hj).1; have := HN.out; omega)
          refine ⟨((KeepsOthers.alloc _ _).trans (KeepsOthers.of_grownBy HG3.out (fun j o hj ho => ?_))).trans (KeepsOthers.setCell _ _ _), kS, ⟨_, _, HB3.out.set _, HO.out.snoc HPN.out kS HRI.out hoS⟩, by simp [HPN.out]; omega, fun k hk hne => (kS.low k hk hne).trans (HLO.out k hk hne), hb3W.setCell (p := ⟨Bs, 0, none⟩) (by have := HN.out; show w.heap.size ≤ Bs; omega) _⟩
          rcases HRW.out.2 with ⟨e, _⟩ | ⟨g, cap, cur, e, _, hc, _⟩
          · rw [e] at hj; simp [Value.ownBlock] at hj
          · rw [e] at hj
            simp [Value.ownBlock] at hj
            subst hj
            rw [hc] at ho
            cases ho
            rfl
      case done =>
        rintro D W hD ⟨⟨v, us, hb, ho⟩, hpl, hlow, hbl⟩ hdd
        obtain ⟨va, vc, rfl, hir⟩ := ho.in.is
        obtain ⟨c0, f0⟩ := hb.cell
        have b6 : Bx W w.heap.size (.slice none 0 0) 28 := (hlow w.heap.size (by have := HN.out; omega) (by have := HN.out; omega)).trans (H6.out.next HEr.out)
        have b7 : Bx W (w.heap.size + 1) (.bool false) 4 := (hlow (w.heap.size + 1) (by have := HN.out; omega) (by have := HN.out; omega)).trans (H7.out.next HEr.out)
        have hMW : Marks w.heap.size W ds := (HM.out.next HEr.out).kept fun d hd D e hD => (hlow D (HMD.out d hd D e) (Marks.ne HXJ.out d hd D e hD)).trans hD
        have hMM := hMW.more (D := D) (by have := HN.out; omega) hdd (fun d hd D' e => by have := HMD.out d hd D' e; omega)
        have HRN := Lib.hid (And.intro (ho.far rfl (by have := HN.out; omega) b6 b7) (And.intro ((contM_next HPT.out hpl).symm.trans HR.out.2.1) (GoodK.join (p := (p1, p2, p3)) HR.out.2.2 hga hps hgt)))
        have HB6 := Lib.hid b6
        have HB7 := Lib.hid b7
        have HMM := Lib.hid hMM
        generalize joinM gs (p1, p2, p3) R = R' at hpl c0 HRN
        clear hb ho hlow hir b6 b7 hMW hMM hdd
        gi_wp2
        refine ⟨⟨_, _, _, _, _, _, _, _, _, _, _, _, _, _, _, _, _, _, _, _, _, k + 1, va, R'.length, vc, R', rfl, by omega, hpl, Lib.hid ⟨HRN.out.1, HRN.out.2.1, fun r hr => by have := HRN.out.2.2 r hr; rwa [show 12 + 3 * k + 3 = 12 + 3 * (k + 1) by omega] at this⟩, HB6, HB7, HMM, hbl⟩, ?_⟩
        simp [intOf]; omega
      case stop =>
        rintro D pre m W hD hf ⟨hpl, b6, b7, hMW, hbl⟩ hdd
        have hMM := hMW.more (D := D) (by have := HN.out; omega) hdd (fun d hd D' e => by have := HMD.out d hd D' e; omega)
        have hov : contM gs (ls.drop k) R = none := contM_over HPT.out (by rw [hf, List.length_append]; omega)
        have hRN : RES = none := HR.out.2.1.symm.trans hov
        apply wpIn_ret
        refine leaves_marks (FinW w none 0 0 [] false) w.heap.size (fun W D h hD hd => h.put W D hD hd) (fun W h => ?_) _ W hMM ⟨b6, b7, .inl ⟨rfl, rfl, rfl, rfl⟩, hbl⟩
        obtain ⟨h6, h7, hr, hb⟩ := h
        obtain ⟨c6, f6⟩ := h6.cell
        obtain ⟨c7, f7⟩ := h7.cell
        exact ⟨.tuple #[.slice none 0 0, .bool false], by simp [results, Tryz.results75, go_sem, *], none, 0, 0, by rw [hRN]; rfl, by rw [hRN]; exact hr, hb⟩
    · have hkk : k = lb := by omega
      have hRS : RES = some R := by
        have h1 := HR.out.2.1
        rw [List.drop_eq_nil_of_le (by rw [HLB.out]; omega)] at h1
        rw [← h1]
        rfl
      obtain ⟨c6, f6⟩ := H6.out.cell
      obtain ⟨c7, f7⟩ := H7.out.cell
      have hMW := (HM.out.far H6.out (.slice ra rn rc)).far (H7.out.far (q := ⟨w.heap.size, 0, none⟩) (by simp) (.slice ra rn rc)) (.bool true)
      have g6 := (H6.out.set (.slice ra rn rc)).far (q := ⟨w.heap.size + 1, 0, none⟩) (by simp) (.bool true)
      have g7 := (H7.out.far (q := ⟨w.heap.size, 0, none⟩) (by simp) (.slice ra rn rc)).set (.bool true)
      have gb := (hnx.setCell (p := ⟨w.heap.size, 0, none⟩) (Nat.le_refl _) (.slice ra rn rc)).setCell (p := ⟨w.heap.size + 1, 0, none⟩) (Nat.le_succ _) (.bool true)
      have HG := Lib.hid (And.intro hMW (And.intro g6 (And.intro g7 gb)))
      have HRS := Lib.hid hRS
      clear hMW g6 g7 gb hRS
      gi_wp2
      refine leaves_marks (FinW w ra rn rc R true) w.heap.size (fun W D h hD hd => h.put W D hD hd) (fun W h => ?_) _ _ HG.out.1 ⟨HG.out.2.1, HG.out.2.2.1, ?_, HG.out.2.2.2⟩
      · obtain ⟨h6, h7, hr, hb⟩ := h
        obtain ⟨c6, f6⟩ := h6.cell
        obtain ⟨c7, f7⟩ := h7.cell
        exact ⟨.tuple #[.slice ra rn rc, .bool true], by simp [results, Tryz.results75, go_sem, *], ra, rn, rc, by rw [HRS.out]; rfl, by rw [HRS.out]; exact hr, hb⟩
      · refine HR.out.1 _ (fun k h1 h2 => ?_)
        exact (Below.heap_setCell _ ⟨w.heap.size + 1, 0, none⟩ _ k h2).trans (Below.heap_setCell _ ⟨w.heap.size, 0, none⟩ _ k h1)
end Go.Proofs.YtiajdnhmjdfeeaaGreat
namespace Go.Proofs.YtiajdnhmjdfeeaaGreat
open Go.RowKit Go.WideShapes Go.Maps Go.Sort Go.Shelf
theorem kind_full {l : List UInt8} (h : kindL l ≠ 0) : l ≠ [] := by
  rintro rfl
  exact h (by decide)
theorem okT_kinds {t : Tri3} (h : okT t = true) : (kindL t.1.data.toList = 1 ∨ kindL t.1.data.toList = 3) ∧ kindL t.2.1.data.toList = 1 ∧ (kindL t.2.2.data.toList = 1 ∨ kindL t.2.2.data.toList = 2 ∨ kindL t.2.2.data.toList = 3) := by
  unfold okT triOk at h
  simp only [Bool.and_eq_true, Bool.or_eq_true, decide_eq_true_eq] at h
  obtain ⟨⟨h1, h2⟩, h3⟩ := h
  exact ⟨h1, h2, by omega⟩
theorem okT_noZ {t : Tri3} (h : okT t = true) : NoZt t := by
  obtain ⟨h1, h2, h3⟩ := okT_kinds h
  exact ⟨no_zero (by omega), no_zero (by omega), no_zero (by omega)⟩
theorem okT_plain {t : Tri3} (h : okT t = true) : (isVarK t.1.data.toList = false ∧ isVarK t.2.1.data.toList = false ∧ isVarK t.2.2.data.toList = false) ∧ t.1.data.toList ≠ [] ∧ t.2.1.data.toList ≠ [] ∧ t.2.2.data.toList ≠ [] := by
  obtain ⟨h1, h2, h3⟩ := okT_kinds h
  have hv : ∀ {l : List UInt8}, kindL l ≠ 4 → isVarK l = false := fun h => by unfold isVarK; rw [decide_eq_false_iff_not]; exact h
  exact ⟨⟨hv (by omega), hv (by omega), hv (by omega)⟩, kind_full (by omega), kind_full (by omega), kind_full (by omega)⟩
theorem patT_kinds {t : Tri3} (h : patT t = true) : kindL t.1.data.toList ≠ 0 ∧ kindL t.2.1.data.toList ≠ 0 ∧ kindL t.2.2.data.toList ≠ 0 := by
  unfold patT patOk at h
  simp only [Bool.and_eq_true, Bool.or_eq_true, decide_eq_true_eq, Bool.not_eq_true', decide_eq_false_iff_not] at h
  obtain ⟨⟨h1, h2⟩, h3⟩ := h
  exact ⟨by omega, by omega, h3⟩
theorem patT_noZ {t : Tri3} (h : patT t = true) : NoZt t := by
  obtain ⟨h1, h2, h3⟩ := patT_kinds h
  exact ⟨no_zero h1, no_zero h2, no_zero h3⟩
theorem patT_full {t : Tri3} (h : patT t = true) : t.1.data.toList ≠ [] ∧ t.2.1.data.toList ≠ [] ∧ t.2.2.data.toList ≠ [] := by
  obtain ⟨h1, h2, h3⟩ := patT_kinds h
  exact ⟨kind_full h1, kind_full h2, kind_full h3⟩
theorem bgpOk_iff {ls : List Tri3} : bgpOk ls = true ↔ ls.length ≤ 4 ∧ ∀ p ∈ ls, patT p = true := by
  unfold bgpOk
  rw [Bool.and_eq_true, decide_eq_true_eq, List.all_eq_true]
/-- What is said. -/
def solOk (gs ls : List Tri3) : Bool := graphOk gs && bgpOk ls && (solveM gs ls [[]]).isSome
def solR (gs ls : List Tri3) : List RowV := if (graphOk gs && bgpOk ls) = true then (solveM gs ls [[]]).getD [] else []
theorem contM_rows {g : List Tri3} (hga : SmT g) (hok : ∀ t ∈ g, okT t = true) : ∀ (l : List Tri3) (rows : List RowV) (m : Nat), SmT l → (∀ p ∈ l, patT p = true) → NoZs rows → rows.length ≤ 300 → (∀ r ∈ rows, GoodK m r) → ∀ R, contM g l rows = some R → NoZs R ∧ R.length ≤ 300 ∧ ∀ r ∈ R, GoodK (m + 3 * l.length) r
  | [], rows, m, _, _, hz, hn, hr, R, e => by
    unfold contM at e
    cases e
    exact ⟨hz, hn, hr⟩
  | p :: l, rows, m, hs, hl, hz, hn, hr, R, e => by
    unfold contM at e
    by_cases h : (joinM g p rows).length ≤ 300
    · rw [if_pos h] at e
      have h1 := contM_rows hga hok l (joinM g p rows) (m + 3) (fun q hq => hs q (List.mem_cons_of_mem _ hq)) (fun q hq => hl q (List.mem_cons_of_mem _ hq)) (hz.join (fun t ht => okT_noZ (hok t ht)) (patT_noZ (hl p (List.mem_cons_self ..)))) h
        (GoodK.join hr hga (hs p (List.mem_cons_self ..)) (fun t ht => okT_plain (hok t ht))) R e
      refine ⟨h1.1, h1.2.1, fun r hr => ?_⟩
      have := h1.2.2 r hr
      rwa [show m + 3 + 3 * l.length = m + 3 * (p :: l).length by simp only [List.length_cons]; omega] at this
    · rw [if_neg h] at e
      cases e
theorem goodR_nil : GoodR [] := ⟨fun i j t u _ h => by simp at h, fun u h => by simp at h, fun u h => by simp at h, by simp, fun u h => by simp at h⟩
theorem goodK_nil : GoodK 12 [] := ⟨goodR_nil.1, goodR_nil.2.1, goodR_nil.2.2.1, by simp, goodR_nil.2.2.2.2⟩
theorem noZs_one : NoZs [[]] := fun r hr u hu => by
  obtain rfl : r = [] := by simpa using hr
  simp at hu
/-- Both ways are one. -/
theorem solve_cont {gs ls : List Tri3} (hg : graphOk gs = true) (hl : bgpOk ls = true) : solveM gs ls [[]] = (contM gs ls [[]]).map (addAllR []) := by
  obtain ⟨_, h2, h3⟩ := graphOk_iff.1 hg
  have e : addAllR [] [([] : RowV)] = [[]] := rfl
  have h := solve_is h3.nodup (fun t ht => okT_noZ (h2 t ht)) ls [[]] (fun p hp => patT_noZ ((bgpOk_iff.1 hl).2 p hp)) (Even.one [] goodR_nil.1) noZs_one
  rwa [e] at h
end Go.Proofs.YtiajdnhmjdfeeaaGreat
namespace Go.Proofs.YtiajdnhmjdfeeaaGreat
open Go.RowKit Go.WideShapes Go.Maps Go.Sort Go.Shelf
theorem SmT.sm {ts : List Tri3} (h : SmT ts) : Sm ts := fun t ht => by
  have := h t ht
  exact ⟨by omega, by omega, by omega⟩
theorem isPres_nil (w : World) : IsPres w none 0 0 [] := .inl ⟨rfl, rfl, rfl, rfl⟩
theorem isRows_nil (w : World) : IsRows w none 0 0 [] := .inl ⟨rfl, rfl, rfl, rfl⟩
theorem solOk_no {gs ls : List Tri3} (h : (graphOk gs && bgpOk ls) = false) : solOk gs ls = false ∧ solR gs ls = [] := by
  unfold solOk solR
  rw [h]
  exact ⟨rfl, rfl⟩
theorem solOk_yes {gs ls : List Tri3} (h : (graphOk gs && bgpOk ls) = true) : solOk gs ls = (solveM gs ls [[]]).isSome ∧ solR gs ls = (solveM gs ls [[]]).getD [] := by
  unfold solOk solR
  rw [h]
  exact ⟨rfl, rfl⟩
set_option maxRecDepth 100000 in
set_option maxHeartbeats 3200000 in
theorem implSolutions (a b : Option Addr) (la ca lb cb : Nat) (gs ls : List Tri3) (w : World) (ha : IsTris w a la ca gs) (hb : IsTris w b lb cb ls) (hga : SmT gs) (hgb : SmT ls) :
    Calls Tryz.prog 27 #[.slice a la ca, .slice b lb cb] w fun e w' => ∃ v, e = .returned (.tuple #[v, .bool (solOk gs ls)]) ∧ OwnRs w.heap.size w' v (solR gs ls) ∧ Below w.heap.size w w' := by
  have A1 := implGraphOk a la ca gs w ha hga.sm
  cases hg : graphOk gs
  · have HS := Lib.hid (solOk_no (gs := gs) (ls := ls) (by rw [hg]; rfl))
    rw [hg] at A1
    have C1 := Lib.hid A1
    clear A1 hg ha hb hga hgb
    go_enter Tryz.func27, Tryz.ntmps27
    go_wp2_with fail
    refine C1.out.mono ?_
    rintro e w1 ⟨rfl, hb1⟩
    go_wp2_with fail
    go_ret2
    exact ⟨_, by rw [HS.out.1]; rfl, by rw [HS.out.2]; exact OwnRs.none _ _, hb1⟩
  rw [hg] at A1
  have C1 := Lib.hid A1
  have A2 := fun W (h : Below w.heap.size w W) => implBgpOk b lb cb ls W (hb.next h) hgb.sm
  cases hl : bgpOk ls
  · have HS := Lib.hid (solOk_no (gs := gs) (ls := ls) (by rw [hg, hl]; rfl))
    rw [hl] at A2
    have C2 := Lib.hid A2
    clear A1 A2 hg hl ha hb hga hgb
    go_enter Tryz.func27, Tryz.ntmps27
    go_wp2_with fail
    refine C1.out.mono ?_
    rintro e w1 ⟨rfl, hb1⟩
    go_wp2_with fail
    refine (C2.out _ (by first | exact hb1 | exact hb1.drew)).mono ?_
    rintro e w2 ⟨rfl, hb2⟩
    go_wp2_with fail
    go_ret2
    exact ⟨_, by rw [HS.out.1]; rfl, by rw [HS.out.2]; exact OwnRs.none _ _, hb1.trans (hb2.mono hb1.size)⟩
  have HS := Lib.hid (solOk_yes (gs := gs) (ls := ls) (by rw [hg, hl]; rfl))
  rw [hl] at A2
  have C2 := Lib.hid A2
  obtain ⟨hla, hgt, _⟩ := graphOk_iff.1 hg
  obtain ⟨hlb, hpt⟩ := bgpOk_iff.1 hl
  rw [ha.len] at hla
  rw [hb.len] at hlb
  have HB := Lib.hid (solve_cont hg hl)
  have HC : Hid (∀ R, contM gs ls [[]] = some R → NoZs R ∧ R.length ≤ 300 ∧ ∀ r ∈ R, GoodK (12 + 3 * ls.length) r) := Lib.hid (contM_rows hga hgt ls [[]] 12 hgb hpt noZs_one (by simp) (fun r hr => by
    obtain rfl : r = [] := by simpa using hr
    exact goodK_nil))
  have HL := Lib.hid hb.len
  have C3 := Lib.hid (fun W (h : Below w.heap.size w W) => (callsIn_wide (n := 7)).1 (implContinued 7 (Nat.le_refl _) a b none la ca lb cb 0 0 gs ls [] W (ha.next h) (hb.next h) (isPres_nil W) hla hlb (by omega) hga hgb goodR_nil (fun t ht => okT_plain (hgt t ht)) (fun p hp => patT_full (hpt p hp))))
  have hmm := @run_makeMap Tryz.prog
  clear A1 A2 hg hl ha hb hga hgb hgt hpt
  go_enter Tryz.func27, Tryz.ntmps27
  go_wp2_with fail
  refine C1.out.mono ?_
  rintro e w1 ⟨rfl, hb1⟩
  go_wp2_with fail
  refine (C2.out _ (by first | exact hb1 | exact hb1.drew)).mono ?_
  rintro e w2 ⟨rfl, hb2⟩
  have B2 := hb1.trans (hb2.mono hb1.size)
  clear hb1 hb2 C1 C2
  go_wp2_with fail
  refine (C3.out _ (by first | exact B2 | exact B2.drew)).mono ?_
  rintro e w3 ⟨x, n, c, rfl, hr, hb3⟩
  have B3 := B2.trans (hb3.mono B2.size)
  rw [HB.out] at HS
  clear hb3 B2 C3 HB
  cases hc : contM gs ls [[]] with
  | none =>
    rw [hc] at HS
    clear hr
    go_wp2_with fail
    go_ret2
    exact ⟨_, by rw [HS.out.1]; rfl, by rw [HS.out.2]; exact OwnRs.none _ _, B3⟩
  | some R =>
    rw [hc] at hr HS
    obtain ⟨hz, hn, hk⟩ := HC.out R hc
    have hrl := hr.len
    have HKM : Hid (∀ r ∈ R, r.length ≤ 1048576 ∧ (rowTextL r).length ≤ 140737488355328) := Lib.hid (fun r hr => by
      have h1 := (hk r hr).2.2.2.1
      have h2 := rowText_len (hk r hr).2.2.2.2
      have h3 := HL.out
      exact ⟨by omega, by omega⟩)
    have HZ := Lib.hid hz
    have HR := Lib.hid hr
    have OM0 := Lib.hid (OwnMapV.made w3)
    have b4 := (Below.refl w3.heap.size w3).alloc (Nat.le_refl _) (.map #[] 0)
    have B4 := B3.alloc B3.size (.map #[] 0)
    have HB3 := Lib.hid B3.size
    have E2 := Lib.hid (fun W (h : Below (w3.alloc (.map #[] 0)).heap.size (w3.alloc (.map #[] 0)) W) => implPut w3.heap.size 0 [] x n c R W (OM0.out.next h) ((HR.out.next b4).next h) (fun r hr => (HKM.out r hr).2) (by have hh := HR.out.len; simp only [Option.getD_some] at hh; unfold maxLen; omega))
    clear hr hz hk B3 hc HC
    go_wp2_with fail
    refine (E2.out _ (by first | exact Below.refl _ _ | exact Below.drew (Below.refl _ _))).mono ?_
    rintro e w4 ⟨rfl, ⟨us, hl1, hr1, hM1⟩, hg4⟩
    have B5 := B4.grown hg4 B4.size (fun q e => by cases e; exact HB3.out)
    have HE := Lib.hid (fun W (h : Below w4.heap.size w4 W) => implOrdered w3.heap.size (0 + n) R us W hl1 (fun i u r hu hr => (hr1 i u r hu hr).next h) (hM1.next h) HZ.out (by omega) (fun r hr => ⟨(HKM.out r hr).1, by have := (HKM.out r hr).2; unfold maxLen; omega⟩))
    clear hl1 hr1 hM1 hg4 B4 E2 OM0 b4 HR
    go_wp2_with fail
    refine (HE.out _ (by first | exact Below.refl _ _ | exact Below.drew (Below.refl _ _))).mono ?_
    rintro e w5 ⟨v, rfl, ov, hb5⟩
    have hb5' : Below w4.heap.size w4 w5 := by first | exact hb5 | exact (Below.drew (Below.refl _ _)).trans hb5
    have B6 := B5.trans (hb5'.mono B5.size)
    have HF := Lib.hid (ov.base B5.size)
    clear ov hb5 hb5' HE B5
    go_wp2_with fail
    go_ret2
    exact ⟨v, by rw [HS.out.1]; rfl, by rw [HS.out.2]; exact HF.out, B6⟩
end Go.Proofs.YtiajdnhmjdfeeaaGreat
