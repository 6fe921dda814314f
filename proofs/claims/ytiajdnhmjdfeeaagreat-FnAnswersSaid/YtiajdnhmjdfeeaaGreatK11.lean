/- A slice of texts: what its cells hold; one of the call's own; the exact laws' comparison, marks and second look.; DERIVED: THE SHELF's CONTRACTS AT THIS DUMP, IN PLAIN WORDS (tools/lay-plain.mjs out of 'ItrShelf.lean', which tools/lay-shelf.mjs wrote): THE SAME DECLARATIONS UNDER THE SAME NAMES: 'import', 'namespace', 'open', 'def', 'theorem' AND NOTHING ELSE: no command of the shelf's: FOR A HAND-IN. Each laying: the table of numbers ('.._ren') and one theorem, a field a fact of the dump's own or the kernel's comparison; each contract: ONE APPLICATION.; The keys of a map of texts, sorted: a slice of the call's own. -/
import Derived.Test.YtiajdnhmjdfeeaaGreatK10
import Derived.Deep.RegionHeld3
import Derived.Shelf.SlIter.Nil
import Derived.Shelf.SortM.Plain
import Derived.Shelf.SortM.SortNone
import Derived.Shelf.SlGeneric
import Derived.Ground.GgzProg
import Derived.Ground.SlgmProg
import Derived.Test.YtiajdnhmjdfeeaaGreatProg
import Derived.Sort.EveryDepth
import Derived.StillTailTactics
namespace Go.Proofs.YtiajdnhmjdfeeaaGreat
open Go.RowKit Go.WideShapes
/-- The slice is nil, or its cells hold the texts ts. -/
def IsStrs (w : World) (a : Option Addr) (len cap : Nat) (ts : List ByteArray) : Prop :=
  (a = none ∧ len = 0 ∧ cap = 0 ∧ ts = []) ∨
  ∃ x, a = some x ∧ len ≤ cap ∧ cap ≤ maxLen ∧ ts.length = len ∧ ∀ (i : Nat) (t : ByteArray), ts[i]? = some t → w.cell? (x.add i) = some (.string t)
theorem IsStrs.cells {w : World} {a : Option Addr} {len cap : Nat} {ts : List ByteArray} (h : IsStrs w a len cap ts) (h0 : 0 < len) : ∃ b off, a = some ⟨b, off, none⟩ ∧ b < w.heap.size ∧ len ≤ cap ∧ cap ≤ maxLen ∧ ts.length = len ∧
    ∀ (i : Nat) (t : ByteArray), ts[i]? = some t → w.cell? ⟨b, off + i, none⟩ = some (.string t) := by
  rcases h with ⟨_, rfl, _⟩ | ⟨x, rfl, h1, h2, h3, h4⟩
  · omega
  · obtain ⟨b, off, spot⟩ := x
    have ht : ts[0]? = some ts[0] := List.getElem?_eq_getElem (by omega)
    have hc := h4 0 _ ht
    obtain rfl : spot = none := by simpa [Addr.add] using World.cell?_spot hc
    refine ⟨b, off, rfl, by have := World.block_lt_of_cell? _ _ hc; simpa [Addr.add] using this, h1, h2, h3, fun i t hi => ?_⟩
    have c0 := h4 i t hi
    rw [add_plain] at c0
    exact c0
theorem IsStrs.len {w : World} {a : Option Addr} {len cap : Nat} {ts : List ByteArray} (h : IsStrs w a len cap ts) : ts.length = len := by
  rcases h with ⟨_, rfl, _, rfl⟩ | ⟨_, _, _, _, h, _⟩
  · rfl
  · exact h
theorem IsStrs.maxl {w : World} {a : Option Addr} {len cap : Nat} {ts : List ByteArray} (h : IsStrs w a len cap ts) : len ≤ 9223372036854775807 := by
  rcases h with ⟨_, rfl, _, _⟩ | ⟨_, _, h1, h2, _⟩
  · omega
  · unfold maxLen at h2; omega
theorem IsStrs.next {w w' : World} {a : Option Addr} {len cap : Nat} {ts : List ByteArray} (h : IsStrs w a len cap ts) (hb : Below w.heap.size w w') : IsStrs w' a len cap ts := by
  rcases h with h | ⟨x, rfl, h2, h3, h4, h5⟩
  · exact .inl h
  · exact .inr ⟨x, rfl, h2, h3, h4, fun i t hi => by
      have c0 := h5 i t hi
      rw [hb.cell (World.block_lt_of_cell? _ _ c0)]; exact c0⟩
abbrev strV (t : ByteArray) : Value := .string t
/-- The call owns a slice of these texts. -/
def OwnS (B : Nat) (w : World) (v : Value) (ts : List ByteArray) : Prop := w.ownsRow B 9 1 v ts.length (ts.map strV)
theorem infoStr : (Tryz.prog.info? 9).map (fun i => (i.zero, i.size, i.bytes)) = some (some (.string ⟨#[]⟩), 1, 16) := by kernel_rfl
theorem OwnS.is {B : Nat} {w : World} {v : Value} {ts : List ByteArray} (h : OwnS B w v ts) : ∃ a cap, v = .slice a ts.length cap ∧ IsStrs w a ts.length cap ts := by
  have h0 := h
  obtain ⟨_, hc⟩ := h
  rcases hc with ⟨rfl, hl⟩ | ⟨g, cap, cur, rfl, _, hb, h1, h2, _⟩
  · exact ⟨none, 0, by rw [hl], .inl ⟨rfl, hl, rfl, List.length_eq_zero_iff.1 hl⟩⟩
  · refine ⟨_, cap, rfl, .inr ⟨⟨g, 0, none⟩, rfl, h1, h2, rfl, fun i t hi => ?_⟩⟩
    have hl : i < ts.length := (List.getElem?_eq_some_iff.1 hi).1
    have k0 := h0.cellAt i (by omega)
    have e : (⟨g, 0, none⟩ : Addr).add i = ⟨g, i, none⟩ := by rw [add_plain, Nat.zero_add]
    rw [e, k0, List.getElem?_map, hi]; rfl
theorem OwnS.kept {B : Nat} {w w' : World} {v : Value} {ts : List ByteArray} (h : OwnS B w v ts) (hb : Below w.heap.size w w') : OwnS B w' v ts := World.ownsRow.kept h (grown_of_below hb) (by
  rcases hv : v.ownBlock with _ | i
  · exact .inl rfl
  · exact .inr (by simp))
theorem ownS_snoc {B : Nat} {w : World} {v : Value} {ts : List ByteArray} {t : ByteArray} (h : w.ownsRow B 9 1 v (ts.length + 1) (ts.map strV ++ [.string t])) : OwnS B w v (ts ++ [t]) := by
  unfold OwnS; simpa using h
theorem ownS_base {B C : Nat} {w : World} {v : Value} {ts : List ByteArray} (h : OwnS B w v ts) (hc : C ≤ B) : OwnS C w v ts := by
  obtain ⟨h1, h2⟩ := h
  refine ⟨h1, ?_⟩
  rcases h2 with h2 | ⟨g, cap, cur, e, hB, r⟩
  · exact .inl h2
  · exact .inr ⟨g, cap, cur, e, Nat.le_trans hc hB, r⟩
def marksS (k n : Nat) : List ByteArray := (List.range n).map fun i => mark (k + i)
theorem set1 {xs l : List Value} {k : Nat} (a : Value) (h : xs.take k = l) (hl : k < xs.length) : (xs.set k a).take (k + 1) = l ++ [a] := by
  subst h
  rw [List.take_succ_eq_append_getElem (by simpa using hl), List.take_set_of_le (Nat.le_refl _)]
  simp
end Go.Proofs.YtiajdnhmjdfeeaaGreat
namespace Go.Proofs
open Go.Shelf
def Tryz.keysS_ren : Go.Shelf.Ren := ⟨fun | 7 => 85 | 10 => 129 | n => n, fun | 23 => 115 | 26 => 9 | 3 => 4 | 28 => 121 | 0 => 0 | 27 => 120 | 33 => 118 | 4 => 4 | n => n, fun | n => n⟩
theorem Tryz.keysS : Go.Proofs.SlLaysZ.n7 Tryz.prog Tryz.keysS_ren := {
  mixed := by kernel_rfl
  f7 := ⟨Tryz.f85.name, by decide, Tryz.func85.trans (congrArg some (by kernel_rfl))⟩
  f10 := ⟨Tryz.f129.name, by decide, Tryz.func129.trans (congrArg some (by kernel_rfl))⟩
  t0 := Tryz.underlying0
  a0 := Tryz.isAgg0
  z0 := Tryz.sizeOf0
  v0 := Tryz.zeroValue0
  t4 := Tryz.underlying4
  a4 := Tryz.isAgg4
  z4 := Tryz.sizeOf4
  v4 := Tryz.zeroValue4
  t23 := Tryz.underlying115
  a23 := Tryz.isAgg115
  z23 := Tryz.sizeOf115
  v23 := Tryz.zeroValue115
  t26 := Tryz.underlying9
  a26 := Tryz.isAgg9
  z26 := Tryz.sizeOf9
  v26 := Tryz.zeroValue9
  t27 := Tryz.underlying120
  a27 := Tryz.isAgg120
  z27 := Tryz.sizeOf120
  v27 := Tryz.zeroValue120
  t28 := Tryz.underlying121
  a28 := Tryz.isAgg121
  z28 := Tryz.sizeOf121
  v28 := Tryz.zeroValue121
  t33 := Tryz.underlying118
  a33 := Tryz.isAgg118
  z33 := Tryz.sizeOf118
  v33 := Tryz.zeroValue118 }
def Tryz.sortedS_ren : Go.Shelf.Ren := ⟨fun | 6 => 84 | 8 => 127 | 9 => 128 | 11 => 165 | 13 => 167 | 12 => 166 | 23 => 191 | 24 => 192 | 14 => 182 | 15 => 183 | 16 => 184 | 17 => 185 | 18 => 186 | 19 => 187 | 20 => 188 | 21 => 189 | 22 => 190 | 25 => 198 | 26 => 199 | 27 => 200 | 28 => 201 | 29 => 202 | 30 => 203 | 31 => 208 | n => n, fun | 26 => 9 | 28 => 121 | 24 => 23 | 0 => 0 | 3 => 3 | 37 => 188 | 48 => 213 | 50 => 215 | 4 => 4 | 40 => 207 | 39 => 206 | 45 => 112 | 5 => 5 | 9 => 9 | 51 => 220 | 55 => 224 | 57 => 228 | 58 => 229 | 33 => 118 | n => n, fun | n => n⟩
theorem Tryz.sortedS : Go.Proofs.SlLaysZ.n6 Tryz.prog Tryz.sortedS_ren := {
  mixed := by kernel_rfl
  f6 := ⟨Tryz.f84.name, by decide, Tryz.func84.trans (congrArg some (by kernel_rfl))⟩
  f8 := ⟨Tryz.f127.name, by decide, Tryz.func127.trans (congrArg some (by kernel_rfl))⟩
  f11 := ⟨Tryz.f165.name, by decide, Tryz.func165.trans (congrArg some (by kernel_rfl))⟩
  t0 := Tryz.underlying0
  a0 := Tryz.isAgg0
  z0 := Tryz.sizeOf0
  v0 := Tryz.zeroValue0
  t24 := Tryz.underlying23
  a24 := Tryz.isAgg23
  z24 := Tryz.sizeOf23
  v24 := Tryz.zeroValue23
  t26 := Tryz.underlying9
  a26 := Tryz.isAgg9
  z26 := Tryz.sizeOf9
  v26 := Tryz.zeroValue9
  t28 := Tryz.underlying121
  a28 := Tryz.isAgg121
  z28 := Tryz.sizeOf121
  v28 := Tryz.zeroValue121
  i26 := by kernel_rfl }
def Tryz.sortS_ren : Go.Shelf.Ren := ⟨fun | 6 => 128 | 8 => 167 | 9 => 166 | 19 => 191 | 20 => 192 | 21 => 182 | 22 => 183 | 23 => 184 | 24 => 185 | 25 => 186 | 26 => 187 | 27 => 188 | 28 => 189 | 29 => 190 | 36 => 198 | 31 => 199 | 32 => 200 | 37 => 201 | 38 => 202 | 39 => 203 | 41 => 208 | n => n, fun | 27 => 23 | 29 => 9 | 3 => 3 | 32 => 188 | 26 => 23 | 0 => 0 | 44 => 213 | 46 => 215 | 4 => 4 | 36 => 207 | 35 => 206 | 41 => 112 | 5 => 5 | 9 => 9 | 53 => 220 | 57 => 224 | 63 => 228 | 64 => 229 | n => n, fun | n => n⟩
theorem Tryz.sortS : Go.Proofs.SlLaysM.n6 Tryz.prog Tryz.sortS_ren := {
  mixed := by kernel_rfl
  f6 := ⟨Tryz.f128.name, by decide, Tryz.func128.trans (congrArg some (by kernel_rfl))⟩
  f8 := Tryz.func167.trans (congrArg some (by kernel_rfl))
  f9 := ⟨Tryz.f166.name, by decide, Tryz.func166.trans (congrArg some (by kernel_rfl))⟩
  f19 := Tryz.func191.trans (congrArg some (by kernel_rfl))
  f20 := Tryz.func192.trans (congrArg some (by kernel_rfl))
  f21 := ⟨Tryz.f182.name, by decide, Tryz.func182.trans (congrArg some (by kernel_rfl))⟩
  f22 := ⟨Tryz.f183.name, by decide, Tryz.func183.trans (congrArg some (by kernel_rfl))⟩
  f23 := ⟨Tryz.f184.name, by decide, Tryz.func184.trans (congrArg some (by kernel_rfl))⟩
  f24 := ⟨Tryz.f185.name, by decide, Tryz.func185.trans (congrArg some (by kernel_rfl))⟩
  f25 := ⟨Tryz.f186.name, by decide, Tryz.func186.trans (congrArg some (by kernel_rfl))⟩
  f26 := ⟨Tryz.f187.name, by decide, Tryz.func187.trans (congrArg some (by kernel_rfl))⟩
  f27 := ⟨Tryz.f188.name, by decide, Tryz.func188.trans (congrArg some (by kernel_rfl))⟩
  f28 := ⟨Tryz.f189.name, by decide, Tryz.func189.trans (congrArg some (by kernel_rfl))⟩
  f29 := ⟨Tryz.f190.name, by decide, Tryz.func190.trans (congrArg some (by kernel_rfl))⟩
  f31 := Tryz.func199.trans (congrArg some (by kernel_rfl))
  f32 := Tryz.func200.trans (congrArg some (by kernel_rfl))
  f36 := ⟨Tryz.f198.name, by decide, Tryz.func198.trans (congrArg some (by kernel_rfl))⟩
  f37 := ⟨Tryz.f201.name, by decide, Tryz.func201.trans (congrArg some (by kernel_rfl))⟩
  f38 := ⟨Tryz.f202.name, by decide, Tryz.func202.trans (congrArg some (by kernel_rfl))⟩
  f39 := ⟨Tryz.f203.name, by decide, Tryz.func203.trans (congrArg some (by kernel_rfl))⟩
  f41 := ⟨Tryz.f208.name, by decide, Tryz.func208.trans (congrArg some (by kernel_rfl))⟩
  t0 := Tryz.underlying0
  a0 := Tryz.isAgg0
  z0 := Tryz.sizeOf0
  v0 := Tryz.zeroValue0
  t3 := Tryz.underlying3
  a3 := Tryz.isAgg3
  z3 := Tryz.sizeOf3
  v3 := Tryz.zeroValue3
  t4 := Tryz.underlying4
  a4 := Tryz.isAgg4
  z4 := Tryz.sizeOf4
  v4 := Tryz.zeroValue4
  t5 := Tryz.underlying5
  a5 := Tryz.isAgg5
  z5 := Tryz.sizeOf5
  v5 := Tryz.zeroValue5
  t9 := Tryz.underlying9
  a9 := Tryz.isAgg9
  z9 := Tryz.sizeOf9
  v9 := Tryz.zeroValue9
  t26 := Tryz.underlying23
  a26 := Tryz.isAgg23
  z26 := Tryz.sizeOf23
  v26 := Tryz.zeroValue23
  t27 := Tryz.underlying23
  a27 := Tryz.isAgg23
  z27 := Tryz.sizeOf23
  v27 := Tryz.zeroValue23
  t29 := Tryz.underlying9
  a29 := Tryz.isAgg9
  z29 := Tryz.sizeOf9
  v29 := Tryz.zeroValue9
  t32 := Tryz.underlying188
  a32 := Tryz.isAgg188
  z32 := Tryz.sizeOf188
  v32 := Tryz.zeroValue188
  t35 := Tryz.underlying206
  a35 := Tryz.isAgg206
  z35 := Tryz.sizeOf206
  v35 := Tryz.zeroValue206
  t36 := Tryz.underlying207
  a36 := Tryz.isAgg207
  z36 := Tryz.sizeOf207
  v36 := Tryz.zeroValue207
  t41 := Tryz.underlying112
  a41 := Tryz.isAgg112
  z41 := Tryz.sizeOf112
  v41 := Tryz.zeroValue112
  t44 := Tryz.underlying213
  a44 := Tryz.isAgg213
  z44 := Tryz.sizeOf213
  v44 := Tryz.zeroValue213
  t46 := Tryz.underlying215
  a46 := Tryz.isAgg215
  z46 := Tryz.sizeOf215
  v46 := Tryz.zeroValue215
  t53 := Tryz.underlying220
  a53 := Tryz.isAgg220
  z53 := Tryz.sizeOf220
  v53 := Tryz.zeroValue220
  t57 := Tryz.underlying224
  a57 := Tryz.isAgg224
  z57 := Tryz.sizeOf224
  v57 := Tryz.zeroValue224
  t63 := Tryz.underlying228
  a63 := Tryz.isAgg228
  z63 := Tryz.sizeOf228
  v63 := Tryz.zeroValue228
  t64 := Tryz.underlying229
  a64 := Tryz.isAgg229
  z64 := Tryz.sizeOf229
  v64 := Tryz.zeroValue229 }
end Go.Proofs
namespace Go.Proofs.YtiajdnhmjdfeeaaGreat
open Go.RowKit Go.Maps Go.Sort Go.Shelf
theorem sortsTxt (m : Nat) : AnyZ.SortsIn Tryz.prog Tryz.sortedS_ren Fence.wide m :=
  ⟨fun blk off cap ss W hH hblk hsz => callsIn_wide.2 (AnyM.slices_Sort_string Tryz.sortS blk off cap ss W hH hblk hsz),
   fun p cap W => callsIn_wide.2 (AnyM.slices_Sort_string_none Tryz.sortS p cap W)⟩
theorem keysTxt (b : Nat) (W : World) : Calls Tryz.prog 85 #[.map (some b)] W fun e w' =>
    e = .returned (.func (.func 129) #[] #[.pointer (some ⟨W.heap.size, 0, none⟩)]) ∧ w' = W.alloc (.cells #[.map (some b)] 115) :=
  (callsIn_wide (n := 5)).1 (AnyZ.keys_in Tryz.keysS Fence.wide 5 trivial rfl (some b) W)
theorem set_keys {H : Type} {w : World} {b n : Nat} {D : DataW H} {R : Value → Option (DataW H × List MemPlace)} {ts : List Txt} (hown : w.ownsMap Tryz.prog 9 R b n D) (hD : SetOfS D ts) : ts.Perm (strKeys D) :=
  Collected.perm (left := fun _ => false) ⟨hD.nodup, fun x => by have := hD.mem x; unfold litS at this; rw [this]; simp⟩ hown lawTxt Tryz.underlying9 (fun _ => rfl)
set_option maxHeartbeats 1000000 in
theorem sortedTxt (b n : Nat) (ts : List Txt) (w : World) (h : OwnSetS w b n ts) (ht : ts.length ≤ 1000000) :
    Calls Tryz.prog 84 #[.func (.func 129) #[] #[.pointer (some ⟨w.heap.size, 0, none⟩)]] (w.alloc (.cells #[.map (some b)] 115)) fun e w' =>
      ∃ v, e = .returned v ∧ OwnS w.heap.size w' v ((ts.mergeSort leB).map bs) ∧ Below w.heap.size w w' := by
  obtain ⟨D, hown, hD⟩ := h
  have hbl := hown.lt
  have hsz : Maps.size D = ts.length := hD.size
  have hseq : SeqGives Fence.wide 2 Tryz.prog 129 #[.pointer (some ⟨w.heap.size, 0, none⟩)] encStr (fun ss => ss.Perm (strKeys D)) (Maps.size D) (w.alloc (.cells #[.map (some b)] 115)) :=
    AnyZ.keys_gives (ρ := Tryz.keysS_ren) { Tryz.keysS with } Fence.wide _ trivial rfl (by omega) w.heap.size b n D _ (by simp) (by simp) (hown.alloc _)
  have hc := (callsIn_wide (n := 5)).1 (AnyZ.sorted_in Tryz.sortedS Fence.wide 5 trivial trivial trivial trivial rfl (by omega) (sortsTxt _) (enters_of Tryz.func128 (by kernel_rfl) rfl) 129 #[.pointer (some ⟨w.heap.size, 0, none⟩)] trivial (enters_of Tryz.func129 (by kernel_rfl) rfl) _ _ (by unfold maxLen; omega) (by omega) _ hseq)
  refine hc.mono ?_
  rintro e w' ⟨v, ss, rfl, hS, hrow, _, hb⟩
  have hp : ss.mergeSort leB = ts.mergeSort leB := mergeSort_of_perm (hS.trans (set_keys hown hD).symm)
  have hl : ss.length = ((ts.mergeSort leB).map bs).length := by rw [List.length_map, ← hp, (List.mergeSort_perm ss leB).length_eq]
  refine ⟨v, rfl, ?_, ((Below.refl _ w).alloc (Nat.le_refl _) _).trans (hb.mono (by simp))⟩
  refine ownS_base (B := (w.alloc (.cells #[.map (some b)] 115)).heap.size) ?_ (by simp)
  have hv : ((ts.mergeSort leB).map bs).map strV = (ss.mergeSort leB).map encStr := by rw [hp, List.map_map]; rfl
  unfold OwnS
  rw [hv, ← hl]
  exact hrow
open Go.RowKit Go.WideShapes Go.Maps
theorem addAllS_nodup : ∀ (us ts : List Txt), ts.Nodup → (addAllS ts us).Nodup
  | [], ts, h => h
  | t :: r, ts, h => addAllS_nodup r (addS ts t) (by
    unfold addS
    split
    · exact h
    · rename_i hn
      exact List.nodup_append.2 ⟨h, by simp, fun a ha b hb => by simp at hb; subst hb; exact fun e => hn (e ▸ ha)⟩)
theorem sorted_words (l : List Txt) : (addAllS [] l).mergeSort leB = putAllS [] l :=
  mergeSort_is (addAllS_nodup l [] List.nodup_nil) (putAllS_rising List.Pairwise.nil) (fun u => by rw [addAllS_mem, putAllS_mem])
theorem putAllS_app (g l m : List Txt) : putAllS g (l ++ m) = putAllS (putAllS g l) m := by unfold putAllS; rw [List.foldl_append]
open Go.RowKit Go.WideShapes Go.Maps
theorem ownS_some {B : Nat} {w : World} {v : Value} {ts : List ByteArray} (h : OwnS B w v ts) (h0 : 0 < ts.length) : ∃ g c, v = .slice (some ⟨g, 0, none⟩) ts.length c := by
  rcases h.2 with ⟨_, e⟩ | ⟨g, c, cur, rfl, _⟩
  · omega
  · exact ⟨g, c, rfl⟩
set_option maxRecDepth 100000 in
set_option maxHeartbeats 3200000 in
theorem specPut1 (B g n c : Nat) (L : List Txt) (x : ByteArray) (w : World) (h : OwnS B w (.slice (some ⟨g, 0, none⟩) n c) (L.map bs)) (hn : L.length = n) (hl : n ≤ 1048576) (hB : B ≤ w.heap.size) :
    Calls Tryz.prog 142 #[.slice (some ⟨g, 0, none⟩) n c, .string x] w fun e w' => ∃ g' n' c', e = .returned (.slice (some ⟨g', 0, none⟩) n' c') ∧ OwnS B w' (.slice (some ⟨g', 0, none⟩) n' c') ((putS L x.data.toList).map bs) ∧ (putS L x.data.toList).length = n' ∧ Below w.heap.size w w' := by
  obtain ⟨i0, hi, hz0, hz1, hz2⟩ := info_parts infoStr
  have hgw : g < w.heap.size := (World.ownsRow.lt h g (by simp [Value.ownBlock])).2
  have hnc : n ≤ c := by
    rcases h.2 with ⟨e, _⟩ | ⟨_, _, _, e, _, _, h1, _⟩
    · cases e
    · cases e; rw [List.length_map, hn] at h1; exact h1
  have HC : Hid (∀ (j : Nat) (u : Value), ((L.map bs).map strV)[j]? = some u → w.cell? ⟨g, j, none⟩ = some u) := Lib.hid (fun j u hj => by
    have hjl := (List.getElem?_eq_some_iff.1 hj).1
    unfold OwnS at h
    rw [List.length_map, hn] at h
    rw [World.ownsRow.cellAt h j (by simp at hjl; omega)]; exact hj)
  have HL := Lib.hid hn
  have H := Lib.hid h
  clear h hn
  go_enter Tryz.func142, Tryz.ntmps142
  go_wp2_with fail
  go_loop [5] (fun i => ∃ k : Nat, k ≤ n ∧ i = .int .i64 k ∧ Hid (∀ i u, i < k → L[i]? = some u → lessS u x.data.toList = true)) (fun i => n - (intOf i).toNat)
  case atStart => exact ⟨0, Nat.zero_le _, rfl, Lib.hid (fun i u hi => by omega)⟩
  case round =>
    obtain ⟨k, hk, rfl, hah⟩ := hrel
    have hk6 : (0 : Int) ≤ (k : Int) := by omega
    by_cases hlt : k < n
    case' pos =>
      have hu : L[k]? = some (L[k]'(by have := HL.out; omega)) := List.getElem?_eq_getElem _
      have hc := HC.out k (.string (bs (L[k]'(by have := HL.out; omega)))) (by rw [List.getElem?_map, List.getElem?_map, hu]; rfl)
      generalize L[k]'(by have := HL.out; omega) = u at hu hc
      have hk7 : (k : Int) < (n : Int) := by omega
      have hbl : Op.bytesLess (bs u).toList x.toList = lessS u x.data.toList := by unfold lessS; rw [bs_list, ByteArray.toList_eq]
      have HBE : Hid ((bs u).toList = u) := Lib.hid (bs_list u)
      obtain ⟨sb, hsb⟩ : ∃ sb, bs u = sb := ⟨_, rfl⟩
      rw [hsb] at hc hbl HBE
      have HSB := Lib.hid hsb
      have HU := Lib.hid hu
      clear hsb hu
      cases hq : lessS u x.data.toList
      case' true =>
        have HN : Hid (∀ i u, i < k + 1 → L[i]? = some u → lessS u x.data.toList = true) := Lib.hid (fun i v hi hv => by
          rcases Nat.lt_or_ge i k with g | g
          · exact hah.out i v g hv
          · obtain rfl : i = k := by omega
            rw [HU.out] at hv; obtain rfl := Option.some.inj hv; exact hq)
        rw [hq] at hbl
        clear hq hah HU
        go_wp2_with fail
        go_round
        case rel => exact ⟨k + 1, by omega, by go_num, HN⟩
        case measure => simp [intOf]; omega
      case' false =>
        have HAT : Hid (atS x.data.toList L = k) := Lib.hid (atS_is hah.out (by have := HL.out; omega) (fun v hv => by rw [HU.out] at hv; obtain rfl := Option.some.inj hv; exact hq))
        rw [hq] at hbl
        clear hq hah
        by_cases he : u = x.data.toList
        case' pos =>
          have HSAME : Hid (putS L x.data.toList = L) := Lib.hid (putS_same HAT.out (by rw [HU.out, he]))
          have heq : (sb.toList == x.toList) = true := by rw [HBE.out, he, ByteArray.toList_eq]; simp
          clear he HU HAT HBE HSB
          go_wp2_with fail
          go_ret
          exact ⟨g, n, c, rfl, by rw [HSAME.out]; exact H.out, by rw [HSAME.out]; exact HL.out, Below.refl _ _⟩
        case' neg =>
          have HPUT : Hid (putS L x.data.toList = (L.take k ++ [x.data.toList]) ++ L.drop k) := Lib.hid (putS_more HAT.out (by rw [HU.out]; exact fun e => he (Option.some.inj e)))
          have heq : (sb.toList == x.toList) = false := by rw [HBE.out, beq_eq_false_iff_ne, ByteArray.toList_eq]; exact he
          clear he HU HAT HBE HSB
    case' neg =>
      have HPUT : Hid (putS L x.data.toList = (L.take k ++ [x.data.toList]) ++ L.drop k) := Lib.hid (putS_more (atS_is hah.out (by have := HL.out; omega) (fun v hv => by have := (List.getElem?_eq_some_iff.1 hv).1; have := HL.out; omega)) (fun e => by have := (List.getElem?_eq_some_iff.1 e).1; have := HL.out; omega))
      clear hah
    all_goals
      have O0 : OwnS w.heap.size (w.alloc (.cells #[] 9)) (.slice (some ⟨w.heap.size, 0, none⟩) 0 0) [] := World.ownsRow_lit (size := 1) (e := 9) w #[] 0 (Nat.le_refl _) (by decide) rfl
      have BA := (Below.refl w.heap.size w).alloc (Nat.le_refl _) (.cells #[] 9)
      have HO := Lib.hid O0
      have hlk : (L.take k).length = k := by rw [List.length_take, HL.out]; omega
      obtain ⟨tk, htk⟩ : ∃ l, L.take k = l := ⟨_, rfl⟩
      rw [htk] at hlk
      have HTK := Lib.hid htk
      have HLK := Lib.hid hlk
      obtain ⟨tkb, htkb⟩ : ∃ l, tk.map bs = l := ⟨_, rfl⟩
      have HTKB := Lib.hid htkb
      have HLKB : Hid (tkb.length = k) := Lib.hid (by rw [← htkb, List.length_map, hlk])
      have hld : (L.drop k).length = n - k := by rw [List.length_drop, HL.out]
      obtain ⟨td, htd⟩ : ∃ l, L.drop k = l := ⟨_, rfl⟩
      rw [htd] at hld
      have HTD := Lib.hid htd
      have HLD := Lib.hid hld
      obtain ⟨tdb, htdb⟩ : ∃ l, td.map bs = l := ⟨_, rfl⟩
      have HTDB := Lib.hid htdb
      have HLDB : Hid (tdb.length = n - k) := Lib.hid (by rw [← htdb, List.length_map, hld])
      have HCA : Hid (∀ (j : Nat) (u : Value), (tkb.map strV)[j]? = some u → (w.alloc (.cells #[] 9)).cell? ((⟨g, 0, none⟩ : Addr).add j) = some u) := Lib.hid (fun j u hj => by
        rw [add_plain, Nat.zero_add, BA.cell (p := ⟨g, j, none⟩) hgw]
        refine HC.out j u ?_
        rw [← HTKB.out, ← HTK.out, List.map_take, List.map_take] at hj
        exact (List.getElem?_take_of_lt (by have := (List.getElem?_eq_some_iff.1 hj).1; simp at this; omega)).symm.trans hj)
      clear htk hlk htd hld O0 htkb htdb
      go_wp2_with (at_builtin; refine wpList_append_own _ rfl _ _ 23 rfl w.heap.size 9 i0 (.string ⟨#[]⟩) 1 16 Tryz.underlying23 hi hz0 hz1 hz2 rfl (by decide) _ _ _ rfl HO.out ⟨g, 0, none⟩ k _ (tkb.map strV) rfl (by rw [List.length_map, HLKB.out, Nat.mul_one]) HCA.out (by intro x hx; simp at hx; obtain ⟨y, _, rfl⟩ := hx; rfl) ?h63a ?h48a ?hbsa ?_)
      try (case h63a => first | (rw [List.length_nil]; unfold maxLen; omega) | (unfold maxLen; omega))
      try (case h48a => first | (rw [List.length_nil]; omega) | omega)
      try (case hbsa => first | exact B2.size | exact B1a.size | omega | (simp only [World.size_alloc]; omega))
      intro v1 w1 hown1 hg1 _
      have O1 : OwnS w.heap.size w1 v1 tkb := by unfold OwnS; rw [HLKB.out]; simpa using hown1
      have B1 := BA.grown hg1 BA.size (fun j hj => by simp [Value.ownBlock] at hj; omega)
      have HO1 := Lib.hid O1
      have hne1 := fun j hj => (World.ownsRow.lt O1 j hj).1
      have HCB : Hid (∀ (j : Nat) (u : Value), [Value.string x][j]? = some u → (w1.alloc (.cells #[.string x] 9)).cell? ((⟨w1.heap.size, 0, none⟩ : Addr).add j) = some u) := Lib.hid one_cell
      have B1a := B1.alloc B1.size (.cells #[.string x] 9)
      have O1a := Lib.hid (World.ownsRow.alloc HO1.out (.cells #[.string x] 9))
      have HLK2 := HLKB
      clear hown1 hg1 HO HCA O1 BA
      go_wp2_with (at_builtin; refine wpList_append_own _ rfl _ _ 23 rfl w.heap.size 9 i0 (.string ⟨#[]⟩) 1 16 Tryz.underlying23 hi hz0 hz1 hz2 rfl (by decide) _ _ _ rfl O1a.out ⟨w1.heap.size, 0, none⟩ 1 _ [.string x] rfl rfl HCB.out (by intro y hy; simp at hy; subst hy; rfl) ?h63b ?h48b ?hbsb ?_)
      try (case h63b => first | (rw [HLK2.out]; unfold maxLen; omega) | (unfold maxLen; omega))
      try (case h48b => first | (rw [HLK2.out]; omega) | omega)
      try (case hbsb => first | exact B2.size | exact B1a.size | omega | (simp only [World.size_alloc]; omega))
      intro v2 w2 hown2 hg2 _
      have O2 : OwnS w.heap.size w2 v2 (tkb ++ [x]) := ownS_snoc hown2
      have B2 := B1a.grown hg2 B1a.size (fun j hj => by have := hne1 j hj; omega)
      have hne2 := fun j hj => (World.ownsRow.lt O2 j hj).1
      have HCC : Hid (∀ (j : Nat) (u : Value), (tdb.map strV)[j]? = some u → w2.cell? ⟨g, k + j, none⟩ = some u) := Lib.hid (fun j u hj => by
        rw [B2.cell (p := ⟨g, k + j, none⟩) hgw]
        refine HC.out (k + j) u ?_
        rw [← HTDB.out, ← HTD.out, List.map_drop, List.map_drop, List.getElem?_drop] at hj
        exact hj)
      have HO2 := Lib.hid O2
      have HLP : Hid ((tkb ++ [x]).length = k + 1) := Lib.hid (by rw [List.length_append, HLK2.out]; rfl)
      obtain ⟨pf, hpf⟩ : ∃ l, tkb ++ [x] = l := ⟨_, rfl⟩
      rw [hpf] at HO2 HLP
      have HPF := Lib.hid hpf
      clear hown2 hg2 O1a HCB B1a O2 HO1 B1 hpf
      by_cases hcq : c = k
      · have HTD0 : Hid (tdb = []) := Lib.hid (List.length_eq_zero_iff.1 (by rw [HLDB.out]; omega))
        go_wp2_with (at_builtin; refine wpList_append_own _ rfl _ _ 23 rfl w.heap.size 9 i0 (.string ⟨#[]⟩) 1 16 Tryz.underlying23 hi hz0 hz1 hz2 rfl (by decide) _ _ _ rfl HO2.out _ (n - k) _ (tdb.map strV) rfl (by rw [List.length_map, HLDB.out, Nat.mul_one]) ?hcl (by intro x hx; simp at hx; obtain ⟨y, _, rfl⟩ := hx; rfl) ?h63c ?h48c ?hbsc ?_)
        case hcl => intro j u hj; rw [HTD0.out] at hj; simp at hj
        try (case h63c => first | (rw [HLP.out]; unfold maxLen; omega) | (unfold maxLen; omega))
        try (case h48c => first | (rw [HLP.out]; omega) | omega)
        try (case hbsc => first | exact B2.size | exact B1a.size | omega | (simp only [World.size_alloc]; omega))
        intro v3 w3 hown3 hg3 _
        have O3 : OwnS w.heap.size w3 v3 (pf ++ tdb) := by unfold OwnS; rw [List.length_append, HLDB.out, List.map_append]; exact hown3
        have B3 := B2.grown hg3 B2.size (fun j hj => by have := hne2 j hj; omega)
        have hl3 : (pf ++ tdb).length = n + 1 := by rw [List.length_append, HLP.out, HLDB.out]; omega
        obtain ⟨g3, c3, rfl⟩ := ownS_some O3 (by omega)
        have HR : Hid (pf ++ tdb = (putS L x.data.toList).map bs) := Lib.hid (by rw [HPUT.out, ← HPF.out, HTK.out, HTD.out, ← HTKB.out, ← HTDB.out]; simp [bs_of])
        have O4 := ownS_base O3 hB
        rw [hl3] at O4 ⊢
        have HO4 : Hid (OwnS B w3 (.slice (some ⟨g3, 0, none⟩) (n + 1) c3) ((putS L x.data.toList).map bs)) := Lib.hid (by rw [← HR.out]; exact O4)
        have HL3 : Hid ((putS L x.data.toList).length = n + 1) := Lib.hid (by have := congrArg List.length HR.out; rw [hl3, List.length_map] at this; exact this.symm)
        clear hown3 hg3 O3 O4 hl3
        go_wp2_with fail
        go_ret
        exact ⟨g3, n + 1, c3, rfl, HO4.out, HL3.out, B3⟩
      · go_wp2_with (at_builtin; refine wpList_append_own _ rfl _ _ 23 rfl w.heap.size 9 i0 (.string ⟨#[]⟩) 1 16 Tryz.underlying23 hi hz0 hz1 hz2 rfl (by decide) _ _ _ rfl HO2.out _ (n - k) _ (tdb.map strV) rfl (by rw [List.length_map, HLDB.out, Nat.mul_one]) ?hcl (by intro x hx; simp at hx; obtain ⟨y, _, rfl⟩ := hx; rfl) ?h63c ?h48c ?hbsc ?_)
        case hcl => intro j u hj; rw [add_plain]; first | exact HCC.out j u hj | (simpa using HCC.out j u hj)
        try (case h63c => first | (rw [HLP.out]; unfold maxLen; omega) | (unfold maxLen; omega))
        try (case h48c => first | (rw [HLP.out]; omega) | omega)
        try (case hbsc => first | exact B2.size | exact B1a.size | omega | (simp only [World.size_alloc]; omega))
        intro v3 w3 hown3 hg3 _
        have O3 : OwnS w.heap.size w3 v3 (pf ++ tdb) := by unfold OwnS; rw [List.length_append, HLDB.out, List.map_append]; exact hown3
        have B3 := B2.grown hg3 B2.size (fun j hj => by have := hne2 j hj; omega)
        have hl3 : (pf ++ tdb).length = n + 1 := by rw [List.length_append, HLP.out, HLDB.out]; omega
        obtain ⟨g3, c3, rfl⟩ := ownS_some O3 (by omega)
        have HR : Hid (pf ++ tdb = (putS L x.data.toList).map bs) := Lib.hid (by rw [HPUT.out, ← HPF.out, HTK.out, HTD.out, ← HTKB.out, ← HTDB.out]; simp [bs_of])
        have O4 := ownS_base O3 hB
        rw [hl3] at O4 ⊢
        have HO4 : Hid (OwnS B w3 (.slice (some ⟨g3, 0, none⟩) (n + 1) c3) ((putS L x.data.toList).map bs)) := Lib.hid (by rw [← HR.out]; exact O4)
        have HL3 : Hid ((putS L x.data.toList).length = n + 1) := Lib.hid (by have := congrArg List.length HR.out; rw [hl3, List.length_map] at this; exact this.symm)
        clear hown3 hg3 O3 O4 hl3
        go_wp2_with fail
        go_ret
        exact ⟨g3, n + 1, c3, rfl, HO4.out, HL3.out, B3⟩
end Go.Proofs.YtiajdnhmjdfeeaaGreat
