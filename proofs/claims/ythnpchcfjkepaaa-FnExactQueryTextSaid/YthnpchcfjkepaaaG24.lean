/- A dataset as the program keeps it: a map from names to graphs, each copied; DataGraph. -/
import Derived.Test.YthnpchcfjkepaaaG23
import Derived.Test.YthnpchcfjkepaaaG12
import Derived.Test.YthnpchcfjkepaaaG13
import Derived.Shelf.SlIter.Nil
import Derived.Shelf.SortM.Plain
import Derived.Shelf.SortM.SortNone
import Derived.Shelf.SlGeneric
import Derived.Ground.GgzProg
import Derived.Ground.SlgmProg
import Derived.Test.YthnpchcfjkepaaaProg
import Derived.Test.YthnpchcfjkepaaaG18
import Derived.Sort.EveryDepth
import Derived.StillTailTactics
namespace Go.Proofs.Ythnpchcfjkepaaa
open Go.RowKit Go.WideShapes Go.Maps
theorem graphAt_nodup : ∀ (ts : List NamV), (ts.map nmT).Nodup → ∀ t ∈ ts, graphAt ts t.1 = t.2
  | [], _, t, h => by simp at h
  | r :: rs, hn, t, h => by
    rw [List.map_cons, List.nodup_cons] at hn
    unfold graphAt
    rcases List.mem_cons.1 h with rfl | h
    · rw [if_pos rfl]
    · rw [if_neg (fun e => hn.1 (List.mem_map.2 ⟨t, h, by unfold nmT; rw [e]⟩))]
      exact graphAt_nodup rs hn.2 t h
theorem graphAt_none : ∀ (ts : List NamV) (s : ByteArray), s.data.toList ∉ ts.map nmT → graphAt ts s = []
  | [], _, _ => rfl
  | r :: rs, s, h => by
    rw [List.map_cons, List.mem_cons, not_or] at h
    unfold graphAt
    rw [if_neg (fun e => h.1 (by unfold nmT; rw [e]))]
    exact graphAt_none rs s h.2
theorem InnN.grow {B : Nat} {w w' : World} {ts : List NamV} {us : List Value} {row : Option Nat} (h : InnN B w ts us) (hg : w.grownBy w' row) (hne : ∀ u ∈ us, u.ownBlock = none ∨ u.ownBlock ≠ row) : InnN B w' ts us :=
  ⟨h.1, fun i u t hu ht => World.ownsRow.kept (h.2.1 i u t hu ht) hg (hne u (List.mem_of_getElem? hu)), h.2.2⟩
/-- A map's block is no row's. -/
theorem row_no_map {B b e k n : Nat} {w : World} {v : Value} {xs : List Value} (h : w.ownsRow B e k v n xs) (hb : ∃ es c, w.heap[b]? = some (.map es c)) : v.ownBlock = none ∨ v.ownBlock ≠ some b := by
  obtain ⟨es, c, hb⟩ := hb
  rcases h.2 with ⟨rfl, _⟩ | ⟨g, cap, cur, rfl, _, hh, _⟩
  · exact .inl rfl
  · refine .inr fun e => ?_
    simp only [Value.ownBlock, Option.some.injEq] at e
    subst e
    rw [hh] at hb
    cases hb
theorem InnN.noMap {B b : Nat} {w : World} {ts : List NamV} {us : List Value} (h : InnN B w ts us) (hb : ∃ es c, w.heap[b]? = some (.map es c)) : ∀ u ∈ us, u.ownBlock = none ∨ u.ownBlock ≠ some b := by
  intro u hu
  obtain ⟨i, hi⟩ := List.mem_iff_getElem?.1 hu
  have hil := (List.getElem?_eq_some_iff.1 hi).1
  exact row_no_map (h.2.1 i u _ hi (List.getElem?_eq_getElem (by have := h.1; omega : i < ts.length))) hb
def DsPost (B : Nat) (ts : List NamV) (w : World) (e : Ending) (w' : World) : Prop :=
  ∃ b us, e = .returned (.tuple #[.map (some b), .bool true]) ∧ (OwnMapD w' b ts.length (kvsD ts us) ∧ InnN B w' ts us) ∧ B ≤ b ∧ Below B w w'
end Go.Proofs.Ythnpchcfjkepaaa
/-
  DERIVED: THE SHELF's CONTRACTS AT THIS DUMP, IN PLAIN WORDS (tools/lay-plain.mjs out of 'ItrShelf.lean', which tools/lay-shelf.mjs wrote): THE SAME DECLARATIONS UNDER THE SAME NAMES: 'import', 'namespace', 'open', 'def', 'theorem' AND NOTHING ELSE: no command of the shelf's: FOR A HAND-IN. Each laying: the table of numbers ('.._ren') and one theorem, a field a fact of the dump's own or the kernel's comparison; each contract: ONE APPLICATION.
-/
namespace Go.Proofs
open Go.Shelf
def Try.keysS_ren : Go.Shelf.Ren := ⟨fun | 7 => 78 | 10 => 106 | n => n, fun | 23 => 71 | 26 => 9 | 3 => 4 | 28 => 114 | 0 => 0 | 27 => 113 | 33 => 111 | 4 => 4 | n => n, fun | n => n⟩
theorem Try.keysS : Go.Proofs.SlLaysZ.n7 Try.prog Try.keysS_ren := {
  mixed := by kernel_rfl
  f7 := ⟨Try.f78.name, by decide, Try.func78.trans (congrArg some (by kernel_rfl))⟩
  f10 := ⟨Try.f106.name, by decide, Try.func106.trans (congrArg some (by kernel_rfl))⟩
  t0 := Try.underlying0
  a0 := Try.isAgg0
  z0 := Try.sizeOf0
  v0 := Try.zeroValue0
  t4 := Try.underlying4
  a4 := Try.isAgg4
  z4 := Try.sizeOf4
  v4 := Try.zeroValue4
  t23 := Try.underlying71
  a23 := Try.isAgg71
  z23 := Try.sizeOf71
  v23 := Try.zeroValue71
  t26 := Try.underlying9
  a26 := Try.isAgg9
  z26 := Try.sizeOf9
  v26 := Try.zeroValue9
  t27 := Try.underlying113
  a27 := Try.isAgg113
  z27 := Try.sizeOf113
  v27 := Try.zeroValue113
  t28 := Try.underlying114
  a28 := Try.isAgg114
  z28 := Try.sizeOf114
  v28 := Try.zeroValue114
  t33 := Try.underlying111
  a33 := Try.isAgg111
  z33 := Try.sizeOf111
  v33 := Try.zeroValue111 }
def Try.sortedS_ren : Go.Shelf.Ren := ⟨fun | 6 => 77 | 8 => 104 | 9 => 105 | 11 => 123 | 13 => 125 | 12 => 124 | 23 => 143 | 24 => 144 | 14 => 134 | 15 => 135 | 16 => 136 | 17 => 137 | 18 => 138 | 19 => 139 | 20 => 140 | 21 => 141 | 22 => 142 | 25 => 155 | 26 => 156 | 27 => 157 | 28 => 158 | 29 => 159 | 30 => 160 | 31 => 166 | n => n, fun | 26 => 9 | 28 => 114 | 24 => 36 | 0 => 0 | 3 => 3 | 37 => 164 | 48 => 182 | 50 => 184 | 4 => 4 | 40 => 174 | 39 => 173 | 45 => 179 | 5 => 5 | 9 => 9 | 51 => 190 | 55 => 194 | 57 => 198 | 58 => 199 | 33 => 111 | n => n, fun | n => n⟩
theorem Try.sortedS : Go.Proofs.SlLaysZ.n6 Try.prog Try.sortedS_ren := {
  mixed := by kernel_rfl
  f6 := ⟨Try.f77.name, by decide, Try.func77.trans (congrArg some (by kernel_rfl))⟩
  f8 := ⟨Try.f104.name, by decide, Try.func104.trans (congrArg some (by kernel_rfl))⟩
  f11 := ⟨Try.f123.name, by decide, Try.func123.trans (congrArg some (by kernel_rfl))⟩
  t0 := Try.underlying0
  a0 := Try.isAgg0
  z0 := Try.sizeOf0
  v0 := Try.zeroValue0
  t24 := Try.underlying36
  a24 := Try.isAgg36
  z24 := Try.sizeOf36
  v24 := Try.zeroValue36
  t26 := Try.underlying9
  a26 := Try.isAgg9
  z26 := Try.sizeOf9
  v26 := Try.zeroValue9
  t28 := Try.underlying114
  a28 := Try.isAgg114
  z28 := Try.sizeOf114
  v28 := Try.zeroValue114
  i26 := by kernel_rfl }
def Try.sortS_ren : Go.Shelf.Ren := ⟨fun | 6 => 105 | 8 => 125 | 9 => 124 | 19 => 143 | 20 => 144 | 21 => 134 | 22 => 135 | 23 => 136 | 24 => 137 | 25 => 138 | 26 => 139 | 27 => 140 | 28 => 141 | 29 => 142 | 36 => 155 | 31 => 156 | 32 => 157 | 37 => 158 | 38 => 159 | 39 => 160 | 41 => 166 | n => n, fun | 27 => 36 | 29 => 9 | 3 => 3 | 32 => 164 | 26 => 36 | 0 => 0 | 44 => 182 | 46 => 184 | 4 => 4 | 36 => 174 | 35 => 173 | 41 => 179 | 5 => 5 | 9 => 9 | 53 => 190 | 57 => 194 | 63 => 198 | 64 => 199 | n => n, fun | n => n⟩
theorem Try.sortS : Go.Proofs.SlLaysM.n6 Try.prog Try.sortS_ren := {
  mixed := by kernel_rfl
  f6 := ⟨Try.f105.name, by decide, Try.func105.trans (congrArg some (by kernel_rfl))⟩
  f8 := Try.func125.trans (congrArg some (by kernel_rfl))
  f9 := ⟨Try.f124.name, by decide, Try.func124.trans (congrArg some (by kernel_rfl))⟩
  f19 := Try.func143.trans (congrArg some (by kernel_rfl))
  f20 := Try.func144.trans (congrArg some (by kernel_rfl))
  f21 := ⟨Try.f134.name, by decide, Try.func134.trans (congrArg some (by kernel_rfl))⟩
  f22 := ⟨Try.f135.name, by decide, Try.func135.trans (congrArg some (by kernel_rfl))⟩
  f23 := ⟨Try.f136.name, by decide, Try.func136.trans (congrArg some (by kernel_rfl))⟩
  f24 := ⟨Try.f137.name, by decide, Try.func137.trans (congrArg some (by kernel_rfl))⟩
  f25 := ⟨Try.f138.name, by decide, Try.func138.trans (congrArg some (by kernel_rfl))⟩
  f26 := ⟨Try.f139.name, by decide, Try.func139.trans (congrArg some (by kernel_rfl))⟩
  f27 := ⟨Try.f140.name, by decide, Try.func140.trans (congrArg some (by kernel_rfl))⟩
  f28 := ⟨Try.f141.name, by decide, Try.func141.trans (congrArg some (by kernel_rfl))⟩
  f29 := ⟨Try.f142.name, by decide, Try.func142.trans (congrArg some (by kernel_rfl))⟩
  f31 := Try.func156.trans (congrArg some (by kernel_rfl))
  f32 := Try.func157.trans (congrArg some (by kernel_rfl))
  f36 := ⟨Try.f155.name, by decide, Try.func155.trans (congrArg some (by kernel_rfl))⟩
  f37 := ⟨Try.f158.name, by decide, Try.func158.trans (congrArg some (by kernel_rfl))⟩
  f38 := ⟨Try.f159.name, by decide, Try.func159.trans (congrArg some (by kernel_rfl))⟩
  f39 := ⟨Try.f160.name, by decide, Try.func160.trans (congrArg some (by kernel_rfl))⟩
  f41 := ⟨Try.f166.name, by decide, Try.func166.trans (congrArg some (by kernel_rfl))⟩
  t0 := Try.underlying0
  a0 := Try.isAgg0
  z0 := Try.sizeOf0
  v0 := Try.zeroValue0
  t3 := Try.underlying3
  a3 := Try.isAgg3
  z3 := Try.sizeOf3
  v3 := Try.zeroValue3
  t4 := Try.underlying4
  a4 := Try.isAgg4
  z4 := Try.sizeOf4
  v4 := Try.zeroValue4
  t5 := Try.underlying5
  a5 := Try.isAgg5
  z5 := Try.sizeOf5
  v5 := Try.zeroValue5
  t9 := Try.underlying9
  a9 := Try.isAgg9
  z9 := Try.sizeOf9
  v9 := Try.zeroValue9
  t26 := Try.underlying36
  a26 := Try.isAgg36
  z26 := Try.sizeOf36
  v26 := Try.zeroValue36
  t27 := Try.underlying36
  a27 := Try.isAgg36
  z27 := Try.sizeOf36
  v27 := Try.zeroValue36
  t29 := Try.underlying9
  a29 := Try.isAgg9
  z29 := Try.sizeOf9
  v29 := Try.zeroValue9
  t32 := Try.underlying164
  a32 := Try.isAgg164
  z32 := Try.sizeOf164
  v32 := Try.zeroValue164
  t35 := Try.underlying173
  a35 := Try.isAgg173
  z35 := Try.sizeOf173
  v35 := Try.zeroValue173
  t36 := Try.underlying174
  a36 := Try.isAgg174
  z36 := Try.sizeOf174
  v36 := Try.zeroValue174
  t41 := Try.underlying179
  a41 := Try.isAgg179
  z41 := Try.sizeOf179
  v41 := Try.zeroValue179
  t44 := Try.underlying182
  a44 := Try.isAgg182
  z44 := Try.sizeOf182
  v44 := Try.zeroValue182
  t46 := Try.underlying184
  a46 := Try.isAgg184
  z46 := Try.sizeOf184
  v46 := Try.zeroValue184
  t53 := Try.underlying190
  a53 := Try.isAgg190
  z53 := Try.sizeOf190
  v53 := Try.zeroValue190
  t57 := Try.underlying194
  a57 := Try.isAgg194
  z57 := Try.sizeOf194
  v57 := Try.zeroValue194
  t63 := Try.underlying198
  a63 := Try.isAgg198
  z63 := Try.sizeOf198
  v63 := Try.zeroValue198
  t64 := Try.underlying199
  a64 := Try.isAgg199
  z64 := Try.sizeOf199
  v64 := Try.zeroValue199 }
end Go.Proofs
/- The keys of a map of texts, sorted: a slice of the call's own. -/
namespace Go.Proofs.Ythnpchcfjkepaaa
open Go.RowKit Go.Maps Go.Sort Go.Shelf
theorem sortsTxt (m : Nat) : AnyZ.SortsIn Try.prog Try.sortedS_ren Fence.wide m :=
  ⟨fun blk off cap ss W hH hblk hsz => callsIn_wide.2 (AnyM.slices_Sort_string Try.sortS blk off cap ss W hH hblk hsz),
   fun p cap W => callsIn_wide.2 (AnyM.slices_Sort_string_none Try.sortS p cap W)⟩
theorem keysTxt (b : Nat) (W : World) : Calls Try.prog 78 #[.map (some b)] W fun e w' =>
    e = .returned (.func (.func 106) #[] #[.pointer (some ⟨W.heap.size, 0, none⟩)]) ∧ w' = W.alloc (.cells #[.map (some b)] 71) :=
  (callsIn_wide (n := 5)).1 (AnyZ.keys_in Try.keysS Fence.wide 5 trivial rfl (some b) W)
theorem set_keys {H : Type} {w : World} {b n : Nat} {D : DataW H} {R : Value → Option (DataW H × List MemPlace)} {ts : List Txt} (hown : w.ownsMap Try.prog 9 R b n D) (hD : SetOfS D ts) : ts.Perm (strKeys D) :=
  Collected.perm (left := fun _ => false) ⟨hD.nodup, fun x => by have := hD.mem x; unfold litS at this; rw [this]; simp⟩ hown lawTxt Try.underlying9 (fun _ => rfl)
set_option maxHeartbeats 1000000 in
theorem sortedTxt (b n : Nat) (ts : List Txt) (w : World) (h : OwnSetS w b n ts) (ht : ts.length ≤ 1000000) :
    Calls Try.prog 77 #[.func (.func 106) #[] #[.pointer (some ⟨w.heap.size, 0, none⟩)]] (w.alloc (.cells #[.map (some b)] 71)) fun e w' =>
      ∃ v, e = .returned v ∧ OwnS w.heap.size w' v ((ts.mergeSort leB).map bs) ∧ Below w.heap.size w w' := by
  obtain ⟨D, hown, hD⟩ := h
  have hbl := hown.lt
  have hsz : Maps.size D = ts.length := hD.size
  have hseq : SeqGives Fence.wide 2 Try.prog 106 #[.pointer (some ⟨w.heap.size, 0, none⟩)] encStr (fun ss => ss.Perm (strKeys D)) (Maps.size D) (w.alloc (.cells #[.map (some b)] 71)) :=
    AnyZ.keys_gives (ρ := Try.keysS_ren) { Try.keysS with } Fence.wide _ trivial rfl (by omega) w.heap.size b n D _ (by simp) (by simp) (hown.alloc _)
  have hc := (callsIn_wide (n := 5)).1 (AnyZ.sorted_in Try.sortedS Fence.wide 5 trivial trivial trivial trivial rfl (by omega) (sortsTxt _) (enters_of Try.func105 (by kernel_rfl) rfl) 106 #[.pointer (some ⟨w.heap.size, 0, none⟩)] trivial (enters_of Try.func106 (by kernel_rfl) rfl) _ _ (by unfold maxLen; omega) (by omega) _ hseq)
  refine hc.mono ?_
  rintro e w' ⟨v, ss, rfl, hS, hrow, _, hb⟩
  have hp : ss.mergeSort leB = ts.mergeSort leB := mergeSort_of_perm (hS.trans (set_keys hown hD).symm)
  have hl : ss.length = ((ts.mergeSort leB).map bs).length := by rw [List.length_map, ← hp, (List.mergeSort_perm ss leB).length_eq]
  refine ⟨v, rfl, ?_, ((Below.refl _ w).alloc (Nat.le_refl _) _).trans (hb.mono (by simp))⟩
  refine ownS_base (B := (w.alloc (.cells #[.map (some b)] 71)).heap.size) ?_ (by simp)
  have hv : ((ts.mergeSort leB).map bs).map strV = (ss.mergeSort leB).map encStr := by rw [hp, List.map_map]; rfl
  unfold OwnS
  rw [hv, ← hl]
  exact hrow
open Go.RowKit Go.WideShapes Go.Maps
theorem addAllS_nodup : ∀ (us ts : List Txt), ts.Nodup → (addAllS ts us).Nodup
  | [], ts, h => h
  | t :: r, ts, h => addAllS_nodup r (addS ts t) (by
    unfold addS
    split
    · exact h
    · rename_i hn
      exact List.nodup_append.2 ⟨h, by simp, fun a ha b hb => by simp at hb; subst hb; exact fun e => hn (e ▸ ha)⟩)
theorem sorted_words (l : List Txt) : (addAllS [] l).mergeSort leB = putAllS [] l :=
  mergeSort_is (addAllS_nodup l [] List.nodup_nil) (putAllS_rising List.Pairwise.nil) (fun u => by rw [addAllS_mem, putAllS_mem])
theorem putAllS_app (g l m : List Txt) : putAllS g (l ++ m) = putAllS (putAllS g l) m := by unfold putAllS; rw [List.foldl_append]
open Go.RowKit Go.WideShapes Go.Maps
theorem ownS_some {B : Nat} {w : World} {v : Value} {ts : List ByteArray} (h : OwnS B w v ts) (h0 : 0 < ts.length) : ∃ g c, v = .slice (some ⟨g, 0, none⟩) ts.length c := by
  rcases h.2 with ⟨_, e⟩ | ⟨g, c, cur, rfl, _⟩
  · omega
  · exact ⟨g, c, rfl⟩
set_option maxRecDepth 100000 in
set_option maxHeartbeats 3200000 in
theorem specPut1 (B g n c : Nat) (L : List Txt) (x : ByteArray) (w : World) (h : OwnS B w (.slice (some ⟨g, 0, none⟩) n c) (L.map bs)) (hn : L.length = n) (hl : n ≤ 1048576) (hB : B ≤ w.heap.size) :
    Calls Try.prog 72 #[.slice (some ⟨g, 0, none⟩) n c, .string x] w fun e w' => ∃ g' n' c', e = .returned (.slice (some ⟨g', 0, none⟩) n' c') ∧ OwnS B w' (.slice (some ⟨g', 0, none⟩) n' c') ((putS L x.data.toList).map bs) ∧ (putS L x.data.toList).length = n' ∧ Below w.heap.size w w' := by
  obtain ⟨i0, hi, hz0, hz1, hz2⟩ := info_parts infoStr
  have hgw : g < w.heap.size := (World.ownsRow.lt h g (by simp [Value.ownBlock])).2
  have hnc : n ≤ c := by
    rcases h.2 with ⟨e, _⟩ | ⟨_, _, _, e, _, _, h1, _⟩
    · cases e
    · cases e; rw [List.length_map, hn] at h1; exact h1
  have HC : Hid (∀ (j : Nat) (u : Value), ((L.map bs).map strV)[j]? = some u → w.cell? ⟨g, j, none⟩ = some u) := Lib.hid (fun j u hj => by
    have hjl := (List.getElem?_eq_some_iff.1 hj).1
    unfold OwnS at h
    rw [List.length_map, hn] at h
    rw [World.ownsRow.cellAt h j (by simp at hjl; omega)]; exact hj)
  have HL := Lib.hid hn
  have H := Lib.hid h
  clear h hn
  go_enter Try.func72, Try.ntmps72
  go_wp2_with fail
  go_loop [5] (fun i => ∃ k : Nat, k ≤ n ∧ i = .int .i64 k ∧ Hid (∀ i u, i < k → L[i]? = some u → lessS u x.data.toList = true)) (fun i => n - (intOf i).toNat)
  case atStart => exact ⟨0, Nat.zero_le _, rfl, Lib.hid (fun i u hi => by omega)⟩
  case round =>
    obtain ⟨k, hk, rfl, hah⟩ := hrel
    have hk6 : (0 : Int) ≤ (k : Int) := by omega
    by_cases hlt : k < n
    case' pos =>
      have hu : L[k]? = some (L[k]'(by have := HL.out; omega)) := List.getElem?_eq_getElem _
      have hc := HC.out k (.string (bs (L[k]'(by have := HL.out; omega)))) (by rw [List.getElem?_map, List.getElem?_map, hu]; rfl)
      generalize L[k]'(by have := HL.out; omega) = u at hu hc
      have hk7 : (k : Int) < (n : Int) := by omega
      have hbl : Op.bytesLess (bs u).toList x.toList = lessS u x.data.toList := by unfold lessS; rw [bs_list, ByteArray.toList_eq]
      have HBE : Hid ((bs u).toList = u) := Lib.hid (bs_list u)
      obtain ⟨sb, hsb⟩ : ∃ sb, bs u = sb := ⟨_, rfl⟩
      rw [hsb] at hc hbl HBE
      have HSB := Lib.hid hsb
      have HU := Lib.hid hu
      clear hsb hu
      cases hq : lessS u x.data.toList
      case' true =>
        have HN : Hid (∀ i u, i < k + 1 → L[i]? = some u → lessS u x.data.toList = true) := Lib.hid (fun i v hi hv => by
          rcases Nat.lt_or_ge i k with g | g
          · exact hah.out i v g hv
          · obtain rfl : i = k := by omega
            rw [HU.out] at hv; obtain rfl := Option.some.inj hv; exact hq)
        rw [hq] at hbl
        clear hq hah HU
        go_wp2_with fail
        go_round
        case rel => exact ⟨k + 1, by omega, by go_num, HN⟩
        case measure => simp [intOf]; omega
      case' false =>
        have HAT : Hid (atS x.data.toList L = k) := Lib.hid (atS_is hah.out (by have := HL.out; omega) (fun v hv => by rw [HU.out] at hv; obtain rfl := Option.some.inj hv; exact hq))
        rw [hq] at hbl
        clear hq hah
        by_cases he : u = x.data.toList
        case' pos =>
          have HSAME : Hid (putS L x.data.toList = L) := Lib.hid (putS_same HAT.out (by rw [HU.out, he]))
          have heq : (sb.toList == x.toList) = true := by rw [HBE.out, he, ByteArray.toList_eq]; simp
          clear he HU HAT HBE HSB
          go_wp2_with fail
          go_ret
          exact ⟨g, n, c, rfl, by rw [HSAME.out]; exact H.out, by rw [HSAME.out]; exact HL.out, Below.refl _ _⟩
        case' neg =>
          have HPUT : Hid (putS L x.data.toList = (L.take k ++ [x.data.toList]) ++ L.drop k) := Lib.hid (putS_more HAT.out (by rw [HU.out]; exact fun e => he (Option.some.inj e)))
          have heq : (sb.toList == x.toList) = false := by rw [HBE.out, beq_eq_false_iff_ne, ByteArray.toList_eq]; exact he
          clear he HU HAT HBE HSB
    case' neg =>
      have HPUT : Hid (putS L x.data.toList = (L.take k ++ [x.data.toList]) ++ L.drop k) := Lib.hid (putS_more (atS_is hah.out (by have := HL.out; omega) (fun v hv => by have := (List.getElem?_eq_some_iff.1 hv).1; have := HL.out; omega)) (fun e => by have := (List.getElem?_eq_some_iff.1 e).1; have := HL.out; omega))
      clear hah
    all_goals
      have O0 : OwnS w.heap.size (w.alloc (.cells #[] 9)) (.slice (some ⟨w.heap.size, 0, none⟩) 0 0) [] := World.ownsRow_lit (size := 1) (e := 9) w #[] 0 (Nat.le_refl _) (by decide) rfl
      have BA := (Below.refl w.heap.size w).alloc (Nat.le_refl _) (.cells #[] 9)
      have HO := Lib.hid O0
      have hlk : (L.take k).length = k := by rw [List.length_take, HL.out]; omega
      obtain ⟨tk, htk⟩ : ∃ l, L.take k = l := ⟨_, rfl⟩
      rw [htk] at hlk
      have HTK := Lib.hid htk
      have HLK := Lib.hid hlk
      obtain ⟨tkb, htkb⟩ : ∃ l, tk.map bs = l := ⟨_, rfl⟩
      have HTKB := Lib.hid htkb
      have HLKB : Hid (tkb.length = k) := Lib.hid (by rw [← htkb, List.length_map, hlk])
      have hld : (L.drop k).length = n - k := by rw [List.length_drop, HL.out]
      obtain ⟨td, htd⟩ : ∃ l, L.drop k = l := ⟨_, rfl⟩
      rw [htd] at hld
      have HTD := Lib.hid htd
      have HLD := Lib.hid hld
      obtain ⟨tdb, htdb⟩ : ∃ l, td.map bs = l := ⟨_, rfl⟩
      have HTDB := Lib.hid htdb
      have HLDB : Hid (tdb.length = n - k) := Lib.hid (by rw [← htdb, List.length_map, hld])
      have HCA : Hid (∀ (j : Nat) (u : Value), (tkb.map strV)[j]? = some u → (w.alloc (.cells #[] 9)).cell? ((⟨g, 0, none⟩ : Addr).add j) = some u) := Lib.hid (fun j u hj => by
        rw [add_plain, Nat.zero_add, BA.cell (p := ⟨g, j, none⟩) hgw]
        refine HC.out j u ?_
        rw [← HTKB.out, ← HTK.out, List.map_take, List.map_take] at hj
        exact (List.getElem?_take_of_lt (by have := (List.getElem?_eq_some_iff.1 hj).1; simp at this; omega)).symm.trans hj)
      clear htk hlk htd hld O0 htkb htdb
      go_wp2_with (at_builtin; refine wpList_append_own _ rfl _ _ 36 rfl w.heap.size 9 i0 (.string ⟨#[]⟩) 1 16 Try.underlying36 hi hz0 hz1 hz2 rfl (by decide) _ _ _ rfl HO.out ⟨g, 0, none⟩ k _ (tkb.map strV) rfl (by rw [List.length_map, HLKB.out, Nat.mul_one]) HCA.out (by intro x hx; simp at hx; obtain ⟨y, _, rfl⟩ := hx; rfl) ?h63a ?h48a ?hbsa ?_)
      try (case h63a => first | (rw [List.length_nil]; unfold maxLen; omega) | (unfold maxLen; omega))
      try (case h48a => first | (rw [List.length_nil]; omega) | omega)
      try (case hbsa => first | exact B2.size | exact B1a.size | omega | (simp only [World.size_alloc]; omega))
      intro v1 w1 hown1 hg1 _
      have O1 : OwnS w.heap.size w1 v1 tkb := by unfold OwnS; rw [HLKB.out]; simpa using hown1
      have B1 := BA.grown hg1 BA.size (fun j hj => by simp [Value.ownBlock] at hj; omega)
      have HO1 := Lib.hid O1
      have hne1 := fun j hj => (World.ownsRow.lt O1 j hj).1
      have HCB : Hid (∀ (j : Nat) (u : Value), [Value.string x][j]? = some u → (w1.alloc (.cells #[.string x] 9)).cell? ((⟨w1.heap.size, 0, none⟩ : Addr).add j) = some u) := Lib.hid one_cell
      have B1a := B1.alloc B1.size (.cells #[.string x] 9)
      have O1a := Lib.hid (World.ownsRow.alloc HO1.out (.cells #[.string x] 9))
      have HLK2 := HLKB
      clear hown1 hg1 HO HCA O1 BA
      go_wp2_with (at_builtin; refine wpList_append_own _ rfl _ _ 36 rfl w.heap.size 9 i0 (.string ⟨#[]⟩) 1 16 Try.underlying36 hi hz0 hz1 hz2 rfl (by decide) _ _ _ rfl O1a.out ⟨w1.heap.size, 0, none⟩ 1 _ [.string x] rfl rfl HCB.out (by intro y hy; simp at hy; subst hy; rfl) ?h63b ?h48b ?hbsb ?_)
      try (case h63b => first | (rw [HLK2.out]; unfold maxLen; omega) | (unfold maxLen; omega))
      try (case h48b => first | (rw [HLK2.out]; omega) | omega)
      try (case hbsb => first | exact B2.size | exact B1a.size | omega | (simp only [World.size_alloc]; omega))
      intro v2 w2 hown2 hg2 _
      have O2 : OwnS w.heap.size w2 v2 (tkb ++ [x]) := ownS_snoc hown2
      have B2 := B1a.grown hg2 B1a.size (fun j hj => by have := hne1 j hj; omega)
      have hne2 := fun j hj => (World.ownsRow.lt O2 j hj).1
      have HCC : Hid (∀ (j : Nat) (u : Value), (tdb.map strV)[j]? = some u → w2.cell? ⟨g, k + j, none⟩ = some u) := Lib.hid (fun j u hj => by
        rw [B2.cell (p := ⟨g, k + j, none⟩) hgw]
        refine HC.out (k + j) u ?_
        rw [← HTDB.out, ← HTD.out, List.map_drop, List.map_drop, List.getElem?_drop] at hj
        exact hj)
      have HO2 := Lib.hid O2
      have HLP : Hid ((tkb ++ [x]).length = k + 1) := Lib.hid (by rw [List.length_append, HLK2.out]; rfl)
      obtain ⟨pf, hpf⟩ : ∃ l, tkb ++ [x] = l := ⟨_, rfl⟩
      rw [hpf] at HO2 HLP
      have HPF := Lib.hid hpf
      clear hown2 hg2 O1a HCB B1a O2 HO1 B1 hpf
      by_cases hcq : c = k
      · have HTD0 : Hid (tdb = []) := Lib.hid (List.length_eq_zero_iff.1 (by rw [HLDB.out]; omega))
        go_wp2_with (at_builtin; refine wpList_append_own _ rfl _ _ 36 rfl w.heap.size 9 i0 (.string ⟨#[]⟩) 1 16 Try.underlying36 hi hz0 hz1 hz2 rfl (by decide) _ _ _ rfl HO2.out _ (n - k) _ (tdb.map strV) rfl (by rw [List.length_map, HLDB.out, Nat.mul_one]) ?hcl (by intro x hx; simp at hx; obtain ⟨y, _, rfl⟩ := hx; rfl) ?h63c ?h48c ?hbsc ?_)
        case hcl => intro j u hj; rw [HTD0.out] at hj; simp at hj
        try (case h63c => first | (rw [HLP.out]; unfold maxLen; omega) | (unfold maxLen; omega))
        try (case h48c => first | (rw [HLP.out]; omega) | omega)
        try (case hbsc => first | exact B2.size | exact B1a.size | omega | (simp only [World.size_alloc]; omega))
        intro v3 w3 hown3 hg3 _
        have O3 : OwnS w.heap.size w3 v3 (pf ++ tdb) := by unfold OwnS; rw [List.length_append, HLDB.out, List.map_append]; exact hown3
        have B3 := B2.grown hg3 B2.size (fun j hj => by have := hne2 j hj; omega)
        have hl3 : (pf ++ tdb).length = n + 1 := by rw [List.length_append, HLP.out, HLDB.out]; omega
        obtain ⟨g3, c3, rfl⟩ := ownS_some O3 (by omega)
        have HR : Hid (pf ++ tdb = (putS L x.data.toList).map bs) := Lib.hid (by rw [HPUT.out, ← HPF.out, HTK.out, HTD.out, ← HTKB.out, ← HTDB.out]; simp [bs_of])
        have O4 := ownS_base O3 hB
        rw [hl3] at O4 ⊢
        have HO4 : Hid (OwnS B w3 (.slice (some ⟨g3, 0, none⟩) (n + 1) c3) ((putS L x.data.toList).map bs)) := Lib.hid (by rw [← HR.out]; exact O4)
        have HL3 : Hid ((putS L x.data.toList).length = n + 1) := Lib.hid (by have := congrArg List.length HR.out; rw [hl3, List.length_map] at this; exact this.symm)
        clear hown3 hg3 O3 O4 hl3
        go_wp2_with fail
        go_ret
        exact ⟨g3, n + 1, c3, rfl, HO4.out, HL3.out, B3⟩
      · go_wp2_with (at_builtin; refine wpList_append_own _ rfl _ _ 36 rfl w.heap.size 9 i0 (.string ⟨#[]⟩) 1 16 Try.underlying36 hi hz0 hz1 hz2 rfl (by decide) _ _ _ rfl HO2.out _ (n - k) _ (tdb.map strV) rfl (by rw [List.length_map, HLDB.out, Nat.mul_one]) ?hcl (by intro x hx; simp at hx; obtain ⟨y, _, rfl⟩ := hx; rfl) ?h63c ?h48c ?hbsc ?_)
        case hcl => intro j u hj; rw [add_plain]; first | exact HCC.out j u hj | (simpa using HCC.out j u hj)
        try (case h63c => first | (rw [HLP.out]; unfold maxLen; omega) | (unfold maxLen; omega))
        try (case h48c => first | (rw [HLP.out]; omega) | omega)
        try (case hbsc => first | exact B2.size | exact B1a.size | omega | (simp only [World.size_alloc]; omega))
        intro v3 w3 hown3 hg3 _
        have O3 : OwnS w.heap.size w3 v3 (pf ++ tdb) := by unfold OwnS; rw [List.length_append, HLDB.out, List.map_append]; exact hown3
        have B3 := B2.grown hg3 B2.size (fun j hj => by have := hne2 j hj; omega)
        have hl3 : (pf ++ tdb).length = n + 1 := by rw [List.length_append, HLP.out, HLDB.out]; omega
        obtain ⟨g3, c3, rfl⟩ := ownS_some O3 (by omega)
        have HR : Hid (pf ++ tdb = (putS L x.data.toList).map bs) := Lib.hid (by rw [HPUT.out, ← HPF.out, HTK.out, HTD.out, ← HTKB.out, ← HTDB.out]; simp [bs_of])
        have O4 := ownS_base O3 hB
        rw [hl3] at O4 ⊢
        have HO4 : Hid (OwnS B w3 (.slice (some ⟨g3, 0, none⟩) (n + 1) c3) ((putS L x.data.toList).map bs)) := Lib.hid (by rw [← HR.out]; exact O4)
        have HL3 : Hid ((putS L x.data.toList).length = n + 1) := Lib.hid (by have := congrArg List.length HR.out; rw [hl3, List.length_map] at this; exact this.symm)
        clear hown3 hg3 O3 O4 hl3
        go_wp2_with fail
        go_ret
        exact ⟨g3, n + 1, c3, rfl, HO4.out, HL3.out, B3⟩
end Go.Proofs.Ythnpchcfjkepaaa
