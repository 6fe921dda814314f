/- A slice of named graphs that grows by one: what the call owns then; a graph put in among the others. -/
import Derived.Test.YtkcbgppplgkkbaaGreatJExactDataWith00
import Derived.Maps.AppendAt
import Derived.Test.YtkcbgppplgkkbaaGreatMarkO
import Derived.Test.YtkcbgppplgkkbaaGreatTxtM
import Derived.Deep.RegionHeld3
import Derived.Test.YtkcbgppplgkkbaaGreatIterL
import Derived.Sort.EveryDepth
import Derived.StillTailTactics
namespace Go.Proofs.YtkcbgppplgkkbaaGreat
open Go.RowKit Go.WideShapes
/-- Another graph at its place; none of that name where it is empty. -/
def putGo (x : NamV) : Bool → List NamV → List NamV
  | done, [] => if done then [] else [x]
  | done, r :: rs => (if !done && lessN x r then [x] else []) ++ ((if r.1 = x.1 then [] else [r]) ++ putGo x (done || lessN x r) rs)
def putNam (ts : List NamV) (x : NamV) : List NamV := putGo x (decide (x.2.length = 0)) ts
theorem putGo_cons {x : NamV} {done : Bool} {ts : List NamV} {k : Nat} {r : NamV} (h : ts[k]? = some r) : putGo x done (ts.drop k) = (if !done && lessN x r then [x] else []) ++ ((if r.1 = x.1 then [] else [r]) ++ putGo x (done || lessN x r) (ts.drop (k + 1))) := by
  have hk := (List.getElem?_eq_some_iff.1 h).1
  have e : ts.drop k = r :: ts.drop (k + 1) := by rw [List.drop_eq_getElem_cons hk, (List.getElem?_eq_some_iff.1 h).2]
  rw [e]; rfl
theorem putGo_len (x : NamV) : ∀ (ts : List NamV) (d : Bool), (putGo x d ts).length ≤ ts.length + (if d then 0 else 1)
  | [], d => by cases d <;> simp [putGo]
  | r :: rs, d => by
    have h := putGo_len x rs (d || lessN x r)
    unfold putGo
    rw [List.length_append, List.length_append, List.length_cons]
    cases d <;> cases hl : lessN x r <;> by_cases e : r.1 = x.1 <;> simp [hl, e] at h ⊢ <;> omega
/-- The call owns the slice v, each of its graphs is one of us, in a block of its own. -/
def OutN (B : Nat) (w : World) (v : Value) (L : List NamV) (us : List Value) : Prop :=
  w.ownsRow B 48 2 v L.length (flatN L us) ∧ InnN B w L us ∧ ∀ u ∈ us, ∀ j, u.ownBlock = some j → v.ownBlock ≠ some j
theorem OutN.own {B : Nat} {w : World} {v : Value} {L : List NamV} {us : List Value} (h : OutN B w v L us) : OwnNs B w v L := ⟨us, h.1, h.2.1, h.2.2⟩
theorem OutN.next {B : Nat} {w w' : World} {v : Value} {L : List NamV} {us : List Value} (h : OutN B w v L us) (hb : Below w.heap.size w w') : OutN B w' v L us :=
  ⟨World.ownsRow.kept h.1 (grown_of_below hb) (by
    rcases hv : v.ownBlock with _ | i
    · exact .inl rfl
    · exact .inr (by simp)), h.2.1.next hb, h.2.2⟩
theorem OutN.grown {B : Nat} {w w' : World} {v : Value} {L : List NamV} {us : List Value} {row : Option Nat} (h : OutN B w v L us) (hg : w.grownBy w' row) (hv : v.ownBlock = none ∨ v.ownBlock ≠ row) (hu : ∀ u ∈ us, u.ownBlock = none ∨ u.ownBlock ≠ row) : OutN B w' v L us :=
  ⟨World.ownsRow.kept h.1 hg hv, ⟨h.2.1.1, fun i u t a b => World.ownsRow.kept (h.2.1.2.1 i u t a b) hg (hu u (List.mem_of_getElem? a)), h.2.1.2.2⟩, h.2.2⟩
theorem OutN.lt {B : Nat} {w : World} {v : Value} {L : List NamV} {us : List Value} (h : OutN B w v L us) : ∀ u ∈ us, ∀ j, u.ownBlock = some j → B ≤ j ∧ j < w.heap.size := h.2.1.lt
theorem InnN.add {B : Nat} {w : World} {ts : List NamV} {us : List Value} {t : NamV} {u : Value} (h : InnN B w ts us) (hd : ∀ v ∈ us, ∀ j, v.ownBlock = some j → u.ownBlock ≠ some j) (ho : OwnT B w u t.2) : InnN B w (ts ++ [t]) (us ++ [u]) := by
  obtain ⟨h1, h2, h3⟩ := h
  refine ⟨by simp [h1], fun i v s hv hs => ?_, List.pairwise_append.2 ⟨h3, List.pairwise_singleton _ _, fun v hv v' hv' j hj e => ?_⟩⟩
  · rcases Nat.lt_or_ge i us.length with g | g
    · rw [List.getElem?_append_left g] at hv
      rw [List.getElem?_append_left (by omega)] at hs
      exact h2 i v s hv hs
    · have hi : i = us.length := by
        have := (List.getElem?_eq_some_iff.1 hv).1
        simp at this; omega
      subst hi
      rw [List.getElem?_append_right (Nat.le_refl _)] at hv
      rw [h1, List.getElem?_append_right (Nat.le_refl _)] at hs
      simp at hv hs
      subst hv hs
      exact ho
  · obtain rfl : v' = u := by simpa using hv'
    exact hd v hv j hj e
/-- One more graph, appended. -/
theorem OutN.more {B : Nat} {w w' : World} {v v' u : Value} {L : List NamV} {us : List Value} {t : NamV} (h : OutN B w v L us) (ho : OwnT B w u t.2) (hd : ∀ x ∈ us, ∀ j, x.ownBlock = some j → u.ownBlock ≠ some j) (hv : ∀ j, u.ownBlock = some j → v.ownBlock ≠ some j)
    (hr : w'.ownsRow B 48 2 v' (L.length + 1) (flatN L us ++ [.string t.1, u])) (hg : w.grownBy w' v.ownBlock) (hat : v'.ownBlock = v.ownBlock ∨ v'.ownBlock = some w.heap.size) : OutN B w' v' (L ++ [t]) (us ++ [u]) := by
  have hI : InnN B w (L ++ [t]) (us ++ [u]) := h.2.1.add hd ho
  have hne : ∀ x ∈ us ++ [u], x.ownBlock = none ∨ x.ownBlock ≠ v.ownBlock := by
    intro x hx
    rcases hxb : x.ownBlock with _ | j
    · exact .inl rfl
    · refine .inr (fun e => ?_)
      rcases List.mem_append.1 hx with hx | hx
      · exact h.2.2 x hx j hxb e.symm
      · obtain rfl := List.mem_singleton.1 hx
        exact hv j hxb e.symm
  refine ⟨?_, ⟨hI.1, fun i x s a b => World.ownsRow.kept (hI.2.1 i x s a b) hg (hne x (List.mem_of_getElem? a)), hI.2.2⟩, fun x hx j hj e => ?_⟩
  · rw [List.length_append, List.length_singleton, flatN_snoc _ _ _ _ h.2.1.1]
    exact hr
  · have hlt := (hI.lt x hx j hj).2
    rcases hat with q | q
    · rw [q] at e
      rcases hne x hx with z | z
      · rw [z] at hj; cases hj
      · exact z (by rw [hj, e])
    · rw [q] at e
      cases e
      exact Nat.lt_irrefl _ hlt
theorem own_oneCell {B : Nat} {w : World} {u : Value} {ts : List Tri3} (h : OwnT B w u ts) : u.oneCell' = true := by
  obtain ⟨a, n, c, rfl⟩ := NamK.own_slice h
  rfl
/-- 'append(out, x)' at a step of a region that draws its order: x lies alone in a literal's block. -/
theorem upon_moreN {o : Oper} {a : Act} {w : World} {Q : Exit → Act → World → Prop} {K : Act → World → Prop} (s x : Operand)
    (ho : o.op = .call { callee := .builtin .append, args := #[s, x], argTypes := #[27, 27] }) {B : Nat} {v u : Value} {L : List NamV} {us : List Value} {t : NamV} (hs : a.eval s = v) (h : OutN B w v L us) (hB : B ≤ w.heap.size)
    (q : Nat) (hx : a.eval x = .slice (some ⟨q, 0, none⟩) 1 1) (hq : w.cell? ⟨q, 0, none⟩ = some (.string t.1) ∧ w.cell? ⟨q, 1, none⟩ = some u) (hu : OwnT B w u t.2) (hd : ∀ x ∈ us, ∀ j, x.ownBlock = some j → u.ownBlock ≠ some j) (hv : ∀ j, u.ownBlock = some j → v.ownBlock ≠ some j) (hl : L.length ≤ 1048576)
    (k : ∀ (v' : Value) (w' : World), OutN B w' v' (L ++ [t]) (us ++ [u]) → w.grownBy w' v.ownBlock → (v'.ownBlock = v.ownBlock ∨ v'.ownBlock = some w.heap.size) → K (a.put o.dst v') w') : Oper.wp Tryz.prog o a w K Q := by
  obtain ⟨i0, hi, hz0, hz1, hz2⟩ := info_parts infoNam
  have hu1 := own_oneCell hu
  obtain ⟨v', w', hr, ho1, hg1, _, hat⟩ := run_append_own_at (P := Tryz.prog) (w := w) B 27 o.type 48 i0 (.agg #[.string ⟨#[]⟩, .slice none 0 0]) 2 40 Tryz.underlying27 hi hz0 hz1 hz2 rfl (by decide) v L.length _ h.1 ⟨q, 0, none⟩ 1 1 [.string t.1, u] rfl (fun j y hy => by
      rcases j with _ | _ | j
      · simp at hy; subst hy; simpa [Addr.add] using hq.1
      · simp at hy; subst hy; simpa [Addr.add] using hq.2
      · simp at hy) (fun y hy => by
      simp at hy
      rcases hy with rfl | rfl
      · rfl
      · exact hu1) (by unfold maxLen; omega) (by omega) hB
  unfold Oper.wp
  simp [execOp, ho, resolve, invoke, builtin, hs, hx, hr, Result.andThen]
  exact k v' w' (h.more hu hd hv ho1 hg1 hat) hg1 hat
theorem wpList_moreN {ops : Array Oper} {rest : List Oper} {o : Oper} {a : Act} {w : World} {Q : Exit → Act → World → Prop} (hgd : o.guard = none) (s x : Operand)
    (ho : o.op = .call { callee := .builtin .append, args := #[s, x], argTypes := #[27, 27] }) {B : Nat} {v u : Value} {L : List NamV} {us : List Value} {t : NamV} (hs : a.eval s = v) (h : OutN B w v L us) (hB : B ≤ w.heap.size)
    (q : Nat) (hx : a.eval x = .slice (some ⟨q, 0, none⟩) 1 1) (hq : w.cell? ⟨q, 0, none⟩ = some (.string t.1) ∧ w.cell? ⟨q, 1, none⟩ = some u) (hu : OwnT B w u t.2) (hd : ∀ x ∈ us, ∀ j, x.ownBlock = some j → u.ownBlock ≠ some j) (hv : ∀ j, u.ownBlock = some j → v.ownBlock ≠ some j) (hl : L.length ≤ 1048576)
    (k : ∀ (v' : Value) (w' : World), OutN B w' v' (L ++ [t]) (us ++ [u]) → w.grownBy w' v.ownBlock → (v'.ownBlock = v.ownBlock ∨ v'.ownBlock = some w.heap.size) → wpList Tryz.prog ops Q rest (a.put o.dst v') w') : wpList Tryz.prog ops Q (o :: rest) a w :=
  wpList_plain hgd fun _ hK => upon_moreN s x ho hs h hB q hx hq hu hd hv hl fun v' w' h1 h2 h3 => hK _ _ (k v' w' h1 h2 h3)
end Go.Proofs.YtkcbgppplgkkbaaGreat
/- A slice of texts: what its cells hold; one of the call's own; the exact laws' comparison, marks and second look. -/
namespace Go.Proofs.YtkcbgppplgkkbaaGreat
open Go.RowKit Go.WideShapes
/-- The slice is nil, or its cells hold the texts ts. -/
def IsStrs (w : World) (a : Option Addr) (len cap : Nat) (ts : List ByteArray) : Prop :=
  (a = none ∧ len = 0 ∧ cap = 0 ∧ ts = []) ∨
  ∃ x, a = some x ∧ len ≤ cap ∧ cap ≤ maxLen ∧ ts.length = len ∧ ∀ (i : Nat) (t : ByteArray), ts[i]? = some t → w.cell? (x.add i) = some (.string t)
theorem IsStrs.cells {w : World} {a : Option Addr} {len cap : Nat} {ts : List ByteArray} (h : IsStrs w a len cap ts) (h0 : 0 < len) : ∃ b off, a = some ⟨b, off, none⟩ ∧ b < w.heap.size ∧ len ≤ cap ∧ cap ≤ maxLen ∧ ts.length = len ∧
    ∀ (i : Nat) (t : ByteArray), ts[i]? = some t → w.cell? ⟨b, off + i, none⟩ = some (.string t) := by
  rcases h with ⟨_, rfl, _⟩ | ⟨x, rfl, h1, h2, h3, h4⟩
  · omega
  · obtain ⟨b, off, spot⟩ := x
    have ht : ts[0]? = some ts[0] := List.getElem?_eq_getElem (by omega)
    have hc := h4 0 _ ht
    obtain rfl : spot = none := by simpa [Addr.add] using World.cell?_spot hc
    refine ⟨b, off, rfl, by have := World.block_lt_of_cell? _ _ hc; simpa [Addr.add] using this, h1, h2, h3, fun i t hi => ?_⟩
    have c0 := h4 i t hi
    rw [add_plain] at c0
    exact c0
theorem IsStrs.len {w : World} {a : Option Addr} {len cap : Nat} {ts : List ByteArray} (h : IsStrs w a len cap ts) : ts.length = len := by
  rcases h with ⟨_, rfl, _, rfl⟩ | ⟨_, _, _, _, h, _⟩
  · rfl
  · exact h
theorem IsStrs.maxl {w : World} {a : Option Addr} {len cap : Nat} {ts : List ByteArray} (h : IsStrs w a len cap ts) : len ≤ 9223372036854775807 := by
  rcases h with ⟨_, rfl, _, _⟩ | ⟨_, _, h1, h2, _⟩
  · omega
  · unfold maxLen at h2; omega
theorem IsStrs.next {w w' : World} {a : Option Addr} {len cap : Nat} {ts : List ByteArray} (h : IsStrs w a len cap ts) (hb : Below w.heap.size w w') : IsStrs w' a len cap ts := by
  rcases h with h | ⟨x, rfl, h2, h3, h4, h5⟩
  · exact .inl h
  · exact .inr ⟨x, rfl, h2, h3, h4, fun i t hi => by
      have c0 := h5 i t hi
      rw [hb.cell (World.block_lt_of_cell? _ _ c0)]; exact c0⟩
abbrev strV (t : ByteArray) : Value := .string t
/-- The call owns a slice of these texts. -/
def OwnS (B : Nat) (w : World) (v : Value) (ts : List ByteArray) : Prop := w.ownsRow B 9 1 v ts.length (ts.map strV)
theorem infoStr : (Tryz.prog.info? 9).map (fun i => (i.zero, i.size, i.bytes)) = some (some (.string ⟨#[]⟩), 1, 16) := by kernel_rfl
theorem OwnS.is {B : Nat} {w : World} {v : Value} {ts : List ByteArray} (h : OwnS B w v ts) : ∃ a cap, v = .slice a ts.length cap ∧ IsStrs w a ts.length cap ts := by
  have h0 := h
  obtain ⟨_, hc⟩ := h
  rcases hc with ⟨rfl, hl⟩ | ⟨g, cap, cur, rfl, _, hb, h1, h2, _⟩
  · exact ⟨none, 0, by rw [hl], .inl ⟨rfl, hl, rfl, List.length_eq_zero_iff.1 hl⟩⟩
  · refine ⟨_, cap, rfl, .inr ⟨⟨g, 0, none⟩, rfl, h1, h2, rfl, fun i t hi => ?_⟩⟩
    have hl : i < ts.length := (List.getElem?_eq_some_iff.1 hi).1
    have k0 := h0.cellAt i (by omega)
    have e : (⟨g, 0, none⟩ : Addr).add i = ⟨g, i, none⟩ := by rw [add_plain, Nat.zero_add]
    rw [e, k0, List.getElem?_map, hi]; rfl
theorem OwnS.kept {B : Nat} {w w' : World} {v : Value} {ts : List ByteArray} (h : OwnS B w v ts) (hb : Below w.heap.size w w') : OwnS B w' v ts := World.ownsRow.kept h (grown_of_below hb) (by
  rcases hv : v.ownBlock with _ | i
  · exact .inl rfl
  · exact .inr (by simp))
theorem ownS_snoc {B : Nat} {w : World} {v : Value} {ts : List ByteArray} {t : ByteArray} (h : w.ownsRow B 9 1 v (ts.length + 1) (ts.map strV ++ [.string t])) : OwnS B w v (ts ++ [t]) := by
  unfold OwnS; simpa using h
theorem ownS_base {B C : Nat} {w : World} {v : Value} {ts : List ByteArray} (h : OwnS B w v ts) (hc : C ≤ B) : OwnS C w v ts := by
  obtain ⟨h1, h2⟩ := h
  refine ⟨h1, ?_⟩
  rcases h2 with h2 | ⟨g, cap, cur, e, hB, r⟩
  · exact .inl h2
  · exact .inr ⟨g, cap, cur, e, Nat.le_trans hc hB, r⟩
def marksS (k n : Nat) : List ByteArray := (List.range n).map fun i => mark (k + i)
theorem marksS_succ (k n : Nat) : marksS k (n + 1) = marksS k n ++ [mark (k + n)] := by unfold marksS; rw [List.range_succ, List.map_append]; rfl
theorem marksS_len (k n : Nat) : (marksS k n).length = n := by simp [marksS]
theorem marksS_at {k n i : Nat} (h : i < n) : (marksS k n)[i]? = some (mark (k + i)) := by unfold marksS; rw [List.getElem?_map, List.getElem?_range h]; rfl
theorem set1 {xs l : List Value} {k : Nat} (a : Value) (h : xs.take k = l) (hl : k < xs.length) : (xs.set k a).take (k + 1) = l ++ [a] := by
  subst h
  rw [List.take_succ_eq_append_getElem (by simpa using hl), List.take_set_of_le (Nat.le_refl _)]
  simp
theorem own_keep1 {B e g n c : Nat} {w w' : World} {xs : List Value} (h : w.ownsRow B e 1 (.slice (some ⟨g, 0, none⟩) n c) n xs) (hb : Below w.heap.size w w') : w'.ownsRow B e 1 (.slice (some ⟨g, 0, none⟩) n c) n xs := h.kept (grown_of_below hb) (.inr (by simp [Value.ownBlock]))
end Go.Proofs.YtkcbgppplgkkbaaGreat
/- The keys of a map of texts, sorted: a slice of the call's own. -/
namespace Go.Proofs.YtkcbgppplgkkbaaGreat
open Go.RowKit Go.Maps Go.Sort Go.Shelf
theorem sortsTxt (m : Nat) : AnyZ.SortsIn Tryz.prog Tryz.sortedS_ren Fence.wide m :=
  ⟨fun blk off cap ss W hH hblk hsz => callsIn_wide.2 (AnyM.slices_Sort_string Tryz.sortS blk off cap ss W hH hblk hsz),
   fun p cap W => callsIn_wide.2 (AnyM.slices_Sort_string_none Tryz.sortS p cap W)⟩
theorem set_keys {H : Type} {w : World} {b n : Nat} {D : DataW H} {R : Value → Option (DataW H × List MemPlace)} {ts : List Txt} (hown : w.ownsMap Tryz.prog 9 R b n D) (hD : SetOfS D ts) : ts.Perm (strKeys D) :=
  Collected.perm (left := fun _ => false) ⟨hD.nodup, fun x => by have := hD.mem x; unfold litS at this; rw [this]; simp⟩ hown lawTxt Tryz.underlying9 (fun _ => rfl)
open Go.RowKit Go.WideShapes Go.Maps
theorem addAllS_nodup : ∀ (us ts : List Txt), ts.Nodup → (addAllS ts us).Nodup
  | [], ts, h => h
  | t :: r, ts, h => addAllS_nodup r (addS ts t) (by
    unfold addS
    split
    · exact h
    · rename_i hn
      exact List.nodup_append.2 ⟨h, by simp, fun a ha b hb => by simp at hb; subst hb; exact fun e => hn (e ▸ ha)⟩)
theorem sorted_words (l : List Txt) : (addAllS [] l).mergeSort leB = putAllS [] l :=
  mergeSort_is (addAllS_nodup l [] List.nodup_nil) (putAllS_rising List.Pairwise.nil) (fun u => by rw [addAllS_mem, putAllS_mem])
theorem putAllS_app (g l m : List Txt) : putAllS g (l ++ m) = putAllS (putAllS g l) m := by unfold putAllS; rw [List.foldl_append]
open Go.RowKit Go.WideShapes Go.Maps
theorem ownS_some {B : Nat} {w : World} {v : Value} {ts : List ByteArray} (h : OwnS B w v ts) (h0 : 0 < ts.length) : ∃ g c, v = .slice (some ⟨g, 0, none⟩) ts.length c := by
  rcases h.2 with ⟨_, e⟩ | ⟨g, c, cur, rfl, _⟩
  · omega
  · exact ⟨g, c, rfl⟩
end Go.Proofs.YtkcbgppplgkkbaaGreat
/- A dataset in order of its names: the program. -/
namespace Go.Proofs.YtkcbgppplgkkbaaGreat
open Go.RowKit Go.Maps Go.Sort Go.Shelf
theorem keysDat (b : Nat) (W : World) : Calls Tryz.prog 49 #[.map (some b)] W fun e w' =>
    e = .returned (.func (.func 61) #[] #[.pointer (some ⟨W.heap.size, 0, none⟩)]) ∧ w' = W.alloc (.cells #[.map (some b)] 51) :=
  (callsIn_wide (n := 5)).1 (AnyZ.keys_in Tryz.keysS Fence.wide 5 trivial rfl (some b) W)
theorem map_keysD {w : World} {b n : Nat} {D : DataW Value} {R : Value → Option (DataW Value × List MemPlace)} {kvs : List (Txt × Value)} {ts : List Txt} (hown : w.ownsMap Tryz.prog 9 R b n D) (hD : MapOfD D kvs) (hts : kvs.map Prod.fst = ts) : ts.Perm (strKeys D) := by
  subst hts
  exact Collected.perm (left := fun _ => false) ⟨hD.nodup, fun x => by have := hD.mem x; unfold litS at this; rw [this]; simp⟩ hown lawTxt Tryz.underlying9 (fun _ => rfl)
set_option maxHeartbeats 1000000 in
theorem sortedDat (b n : Nat) (kvs : List (Txt × Value)) (ts : List Txt) (w : World) (h : OwnMapD w b n kvs) (hts : kvs.map Prod.fst = ts) (ht : ts.length ≤ 1000000) :
    Calls Tryz.prog 48 #[.func (.func 61) #[] #[.pointer (some ⟨w.heap.size, 0, none⟩)]] (w.alloc (.cells #[.map (some b)] 51)) fun e w' =>
      ∃ v, e = .returned v ∧ OwnS w.heap.size w' v ((ts.mergeSort leB).map bs) ∧ Below w.heap.size w w' := by
  obtain ⟨D, hown, hD⟩ := h
  have hbl := hown.lt
  have hsz : Maps.size D = ts.length := by rw [hD.size, ← hts, List.length_map]
  have hseq : SeqGives Fence.wide 2 Tryz.prog 61 #[.pointer (some ⟨w.heap.size, 0, none⟩)] encStr (fun ss => ss.Perm (strKeys D)) (Maps.size D) (w.alloc (.cells #[.map (some b)] 51)) :=
    AnyZ.keys_gives (ρ := Tryz.keysS_ren) { Tryz.keysS with } Fence.wide _ trivial rfl (by omega) w.heap.size b n D _ (by simp) (by simp) (hown.alloc _)
  have hc := (callsIn_wide (n := 5)).1 (AnyZ.sorted_in Tryz.sortedS Fence.wide 5 trivial trivial trivial trivial rfl (by omega) (sortsTxt _) (enters_of Tryz.func60 (by kernel_rfl) rfl) 61 #[.pointer (some ⟨w.heap.size, 0, none⟩)] trivial (enters_of Tryz.func61 (by kernel_rfl) rfl) _ _ (by unfold maxLen; omega) (by omega) _ hseq)
  refine hc.mono ?_
  rintro e w' ⟨v, ss, rfl, hS, hrow, _, hb⟩
  have hp : ss.mergeSort leB = ts.mergeSort leB := mergeSort_of_perm (hS.trans (map_keysD hown hD hts).symm)
  have hl : ss.length = ((ts.mergeSort leB).map bs).length := by rw [List.length_map, ← hp, (List.mergeSort_perm ss leB).length_eq]
  refine ⟨v, rfl, ?_, ((Below.refl _ w).alloc (Nat.le_refl _) _).trans (hb.mono (by simp))⟩
  refine ownS_base (B := (w.alloc (.cells #[.map (some b)] 51)).heap.size) ?_ (by simp)
  have hv : ((ts.mergeSort leB).map bs).map strV = (ss.mergeSort leB).map encStr := by rw [hp, List.map_map]; rfl
  unfold OwnS
  rw [hv, ← hl]
  exact hrow
open Go.RowKit Go.WideShapes Go.Maps
set_option maxRecDepth 100000 in
set_option maxHeartbeats 3200000 in
theorem implInOrderD (B b m : Nat) (kvs : List (Txt × Value)) (P : List NamV) (w : World) (hB : B ≤ w.heap.size) (hM : OwnMapD w b m kvs) (hk : ∀ t, t ∈ kvs.map Prod.fst ↔ t ∈ P.map nmT) (hv : ∀ r ∈ P, ∃ u, (nmT r, u) ∈ kvs ∧ OwnT B w u r.2) (hd : ∀ p ∈ kvs, ∀ q ∈ kvs, p.1 ≠ q.1 → ∀ j, p.2.ownBlock = some j → q.2.ownBlock ≠ some j) (hR : RisingS (P.map nmT)) (hl : P.length ≤ 1000) (hsz : ∀ r ∈ P, r.1.size ≤ maxLen) :
    Calls Tryz.prog 26 #[.map (some b)] w fun e w' => ∃ v, e = .returned v ∧ OwnNs B w' v P ∧ Below w.heap.size w w' := by
  have hms : (kvs.map Prod.fst).mergeSort leB = P.map nmT := mergeSort_is hM.nodup hR hk
  have hkl : (kvs.map Prod.fst).length = P.length := by
    have := congrArg List.length hms
    rw [(List.mergeSort_perm _ leB).length_eq, List.length_map (f := nmT)] at this
    exact this
  obtain ⟨n, hn⟩ : ∃ n, P.length = n := ⟨_, rfl⟩
  have hn1 : n ≤ 1000 := by rw [← hn]; exact hl
  have HPL := Lib.hid hn
  have K1 := Lib.hid (keysDat b w)
  have K2 := Lib.hid (sortedDat b m _ _ w hM rfl (by rw [hkl]; omega))
  have HM := Lib.hid hM
  have HV0 := Lib.hid hv
  have HD0 := Lib.hid hd
  have HR := Lib.hid hR
  have HSZ := Lib.hid hsz
  have HMS := Lib.hid hms
  clear hkl hM hk hv hd hR hsz hms hn
  go_enter Tryz.func26, Tryz.ntmps26
  go_wp2_with fail
  refine K1.out.mono ?_
  rintro e w1 ⟨rfl, rfl⟩
  go_wp2_with fail
  refine K2.out.mono ?_
  rintro e w2 ⟨sv, rfl, os, hb2⟩
  rw [HMS.out] at os
  obtain ⟨sa, sc, rfl, _⟩ := os.is
  have hsl : ((P.map nmT).map bs).length = n := by rw [List.length_map, List.length_map, HPL.out]
  rw [hsl] at os ⊢
  have HS := Lib.hid os
  have O0 : Hid (OutN B w2 (.slice none 0 0) [] []) := Lib.hid ⟨World.ownsRow_nil .., InnN.nil _ _, by simp⟩
  have B0 : Below w.heap.size w w2 := hb2
  clear os hsl K1 K2 HMS
  go_wp2_with fail
  go_loopw [3, 10] (fun v' i wr => ∃ (k : Nat) (v : Value), k ≤ n ∧ i = .int .i64 k ∧ v = v' ∧ Hid (∃ L, OutN B wr v (P.take k) L ∧ ∀ (j : Nat) (u : Value), L[j]? = some u → ∃ r : NamV, P[j]? = some r ∧ (nmT r, u) ∈ kvs) ∧ Hid (OwnS w.heap.size wr (.slice sa n sc) ((P.map nmT).map bs)) ∧ Hid (∀ j, v.ownBlock = some j → w.heap.size ≤ j ∧ (Value.slice sa n sc).ownBlock ≠ some j) ∧ Below w.heap.size w wr) (fun _ i _ => n - (intOf i).toNat)
  case atStart => exact ⟨0, _, Nat.zero_le _, rfl, rfl, Lib.hid ⟨[], O0.out, by simp⟩, HS, Lib.hid (fun j hj => by simp [Value.ownBlock] at hj), B0⟩
  case round =>
    clear O0 B0 HS hb2
    obtain ⟨k, v, hk, rfl, rfl, HO, HS, HF, hnx⟩ := hrel
    by_cases hlt : k < n
    · have hkP : k < P.length := by rw [HPL.out]; exact hlt
      obtain ⟨sa', sc', hse, hss⟩ := HS.out.is
      rw [List.length_map, List.length_map, HPL.out] at hse hss
      cases hse
      obtain ⟨g, off, rfl, hgb, _, _, hts, hc⟩ := hss.cells (by omega)
      have ht : P[k]? = some (P[k]'hkP) := List.getElem?_eq_getElem _
      have HK : Hid (P.take (k + 1) = P.take k ++ [P[k]'hkP]) := Lib.hid (List.take_succ_eq_append_getElem _)
      have c0 := hc k (bs (nmT (P[k]'hkP))) (by rw [List.getElem?_map, List.getElem?_map, ht]; rfl)
      have hpm : P[k]'hkP ∈ P := List.getElem_mem hkP
      have htm := HSZ.out _ hpm
      obtain ⟨u, hkv, ou⟩ := HV0.out _ hpm
      generalize P[k]'hkP = t at HK c0 ht hpm htm hkv ou
      obtain ⟨s, gr⟩ := t
      have ebs : bs (nmT (s, gr)) = s := bs_of s
      rw [ebs] at c0
      simp only at htm
      obtain ⟨ua, uc, rfl⟩ := NamK.own_slice ou |>.elim fun a h => h.elim fun n h => h.elim fun c e => (⟨a, (n, c), e⟩ : ∃ a q, u = .slice a q.1 q.2)
      obtain ⟨un, uc⟩ := uc
      simp only at ou hkv
      have HKV := Lib.hid hkv
      have MM := Lib.hid (HM.out.next hnx)
      have OU := Lib.hid (ownTN_kept ou hnx)
      have HUL := Lib.hid (fun j hj => (World.ownsRow.lt ou j hj).2)
      obtain ⟨L, hL, hLi⟩ := HO.out
      have HL := Lib.hid hL
      have HT := Lib.hid ht
      have hlen1 : (P.take k).length ≤ 1048576 := by rw [List.length_take]; omega
      have HD : Hid (∀ x ∈ L, ∀ j, x.ownBlock = some j → (Value.slice ua un uc).ownBlock ≠ some j) := Lib.hid (fun x hx j hj e => by
        obtain ⟨q, hq⟩ := List.mem_iff_getElem?.1 hx
        obtain ⟨r, h1, h2⟩ := hLi q x hq
        have hqk : q < k := by
          have a1 := (List.getElem?_eq_some_iff.1 hq).1
          have a2 := hL.2.1.1
          rw [List.length_take] at a2
          omega
        have a3 : (P.map nmT)[q]? = some (nmT r) := by rw [List.getElem?_map, h1]; rfl
        have a4 : (P.map nmT)[k]? = some (nmT (s, gr)) := by rw [List.getElem?_map, HT.out]; rfl
        obtain ⟨l1, e1⟩ := List.getElem?_eq_some_iff.1 a3
        obtain ⟨l2, e2⟩ := List.getElem?_eq_some_iff.1 a4
        have hlt2 := List.pairwise_iff_getElem.1 HR.out q k l1 l2 hqk
        rw [e1, e2] at hlt2
        exact HD0.out _ h2 _ HKV.out (lessS_ne hlt2) j hj e)
      have HV : Hid (∀ j, (Value.slice ua un uc).ownBlock = some j → v.ownBlock ≠ some j) := Lib.hid (fun j hj e => by have h1 := HUL.out j hj; have h2 := (HF.out j e).1; omega)
      have HLI := Lib.hid hLi
      have ZZ : Hid (∀ w : World, (zeroValue 42).run Tryz.prog w = .ok (.slice none 0 0) w) := Lib.hid (fun w => by kernel_rfl)
      have bLa : Below wr.heap.size wr (wr.alloc (.cells #[.string s, .slice ua un uc] 48)) := (Below.refl _ _).alloc (Nat.le_refl _) _
      have hBa : B ≤ (wr.alloc (.cells #[.string s, .slice ua un uc] 48)).heap.size := by have := hnx.size; rw [World.size_alloc]; omega
      have qa := (NamK.Box2.new wr (.string s) (.slice ua un uc) 48).cells
      have hk6 : (0 : Int) ≤ (k : Int) := by omega
      have hk7 : (k : Int) < (n : Int) := by omega
      clear hts hc ht hpm hkv ou hL hLi hss ebs
      go_wp2_with (first
        | (at_lookup; go_loud (refine wpList_lookD _ rfl _ _ rfl b m kvs rfl MM.out s htm _ HKV.out rfl (ZZ.out _) ?_))
        | (at_builtin; go_loud (refine wpList_moreN (B := B) (t := (s, gr)) (u := .slice ua un uc) (L := P.take k) (us := L) rfl _ _ rfl rfl (HL.out.next bLa) hBa wr.heap.size rfl qa (ownTN_kept OU.out bLa) HD.out HV.out hlen1 ?_)))
      intro v2 w3 o3 hg3 hat
      have O3 : Hid (∃ L, OutN B w3 v2 (P.take (k + 1)) L ∧ ∀ (j : Nat) (u : Value), L[j]? = some u → ∃ r : NamV, P[j]? = some r ∧ (nmT r, u) ∈ kvs) := Lib.hid ⟨_, by rw [HK.out]; exact o3, fun j u hj => by
        have a2 := HL.out.2.1.1
        rw [List.length_take] at a2
        rcases Nat.lt_or_ge j L.length with z | z
        · rw [List.getElem?_append_left z] at hj
          exact HLI.out j u hj
        · have a1 := (List.getElem?_eq_some_iff.1 hj).1
          rw [List.length_append, List.length_singleton] at a1
          obtain rfl : j = L.length := by omega
          rw [List.getElem?_append_right (Nat.le_refl _)] at hj
          simp at hj
          subst hj
          have ek : L.length = k := by rw [a2, HPL.out]; omega
          exact ⟨(s, gr), by rw [ek, HT.out], HKV.out⟩⟩
      have B3 : Below w.heap.size w w3 := (hnx.trans (bLa.mono hnx.size)).grown hg3 (hnx.trans (bLa.mono hnx.size)).size (fun j hj => (HF.out j hj).1)
      have S1 := HS.out.kept bLa
      have S3 : Hid (OwnS w.heap.size w3 (.slice (some ⟨g, off, none⟩) n sc) ((P.map nmT).map bs)) := Lib.hid (World.ownsRow.kept S1 hg3 (.inr (fun e => (HF.out _ e.symm).2 rfl)))
      have F3 : Hid (∀ j, v2.ownBlock = some j → w.heap.size ≤ j ∧ (Value.slice (some ⟨g, off, none⟩) n sc).ownBlock ≠ some j) := Lib.hid (fun j hj => by
        rcases hat with h | h
        · exact HF.out j (h ▸ hj)
        · rw [h] at hj
          have h9 := Option.some.inj hj
          (try rw [World.size_alloc] at h9)
          refine ⟨by have := hnx.size; omega, fun e => ?_⟩
          have h8 := (World.ownsRow.lt HS.out j e).2
          omega)
      clear o3 hg3 hat HO S1 HS HF HL HLI HD HV OU MM qa bLa hBa hnx
      go_wp2_with fail
      go_roundw
      case rel => exact ⟨k + 1, _, by omega, by go_num, rfl, O3, S3, F3, B3⟩
      case measure => simp [intOf]; omega
    · have HE : Hid (OwnNs B wr v P) := Lib.hid (by
        obtain ⟨L, hL, _⟩ := HO.out
        rw [List.take_of_length_le (by rw [HPL.out]; omega)] at hL
        exact hL.own)
      clear HO HS HF
      go_wp2_with fail
      go_ret
      exact ⟨_, rfl, HE.out, hnx⟩
end Go.Proofs.YtkcbgppplgkkbaaGreat
