/- The program's comparison of triples: the world behind it, written out. -/
import Derived.Test.YtnjphlaohihbaaaGreatG18
import Derived.Test.YtnjphlaohihbaaaGreatG01
import Derived.Sort.Grow
import Derived.Sort.WalkA
import Derived.Shelf.SlSortCmp.NoneTotal
import Derived.Shelf.SlGeneric
import Derived.Ground.SlsfProg
import Derived.Ground.SlgmProg
import Derived.Test.YtnjphlaohihbaaaGreatProg
import Derived.Test.YtnjphlaohihbaaaGreatG09
import Derived.Sort.OwnSorted
namespace Go.Proofs.YtnjphlaohihbaaaGreat
open Go.RowKit Go.Sort Go.Shelf
/-- Draws and new blocks alone, written out. -/
def GrowsD (w w' : World) : Prop := ∃ q os, w' = grow (w.drewN q) os
theorem GrowsD.refl (w : World) : GrowsD w w := ⟨0, #[], by rw [grow_empty]; rfl⟩
theorem GrowsD.trans {a b c : World} (h : GrowsD a b) (g : GrowsD b c) : GrowsD a c := by
  obtain ⟨q, os, rfl⟩ := h
  obtain ⟨r, os', rfl⟩ := g
  exact ⟨q + r, os ++ os', by rw [← grow_grow]; simp only [World.drewN, grow]; simp [Nat.add_assoc]⟩
theorem GrowsD.drew {a b : World} (h : GrowsD a b) : GrowsD a b.drew := h.trans ⟨1, #[], by rw [grow_empty]; rfl⟩
theorem GrowsD.drewN {a b : World} (h : GrowsD a b) (n : Nat) : GrowsD a (b.drewN n) := h.trans ⟨n, #[], by rw [grow_empty]⟩
theorem GrowsD.alloc {a b : World} (h : GrowsD a b) (o : Obj) : GrowsD a (b.alloc o) := h.trans ⟨0, #[o], by rw [alloc_eq_grow]; rfl⟩
theorem GrowsD.below {w w' : World} (h : GrowsD w w') : Below w.heap.size w w' := by
  obtain ⟨q, os, rfl⟩ := h
  refine ⟨rfl, rfl, rfl, by simp, fun k hk => ?_⟩
  simp [grow, World.drewN, Array.getElem?_append_left hk]
def cmpT (x y : Tri3) : Int := if aheadT x y = true then -1 else if aheadT y x = true then 1 else 0
set_option maxRecDepth 100000 in
theorem implAheadG (x y : Tri3) (w : World) :
    Calls Tryz.prog 71 #[.agg #[.string x.1, .string x.2.1, .string x.2.2], .agg #[.string y.1, .string y.2.1, .string y.2.2]] w fun e w' => e = .returned (.bool (aheadT x y)) ∧ GrowsD w w' := by
  obtain ⟨s, p, o⟩ := x
  obtain ⟨s', p', o'⟩ := y
  by_cases h1 : s = s'
  · by_cases h2 : p = p'
    · have e1 : (s.toList == s'.toList) = true := by rw [h1]; simp
      have e2 : (p.toList == p'.toList) = true := by rw [h2]; simp
      have HR : Hid (aheadT (s, p, o) (s', p', o') = Op.bytesLess o.toList o'.toList) := Lib.hid (by
        unfold aheadT aheadL; rw [if_pos (by rw [h1]), if_pos (by rw [h2]), ByteArray.toList_eq, ByteArray.toList_eq])
      clear h1 h2
      go_enter Tryz.func71, Tryz.ntmps71
      go_wp2_with fail
      go_ret
      exact ⟨by rw [HR.out]; rfl, ((GrowsD.refl _).alloc _).alloc _⟩
    · have e1 : (s.toList == s'.toList) = true := by rw [h1]; simp
      have e2 : (p.toList == p'.toList) = false := by rw [beq_eq_false_iff_ne, ByteArray.toList_eq, ByteArray.toList_eq]; exact fun h => h2 (data_inj h)
      have HR : Hid (aheadT (s, p, o) (s', p', o') = Op.bytesLess p.toList p'.toList) := Lib.hid (by
        unfold aheadT aheadL; rw [if_pos (by rw [h1]), if_neg (fun h => h2 (data_inj h)), ByteArray.toList_eq, ByteArray.toList_eq])
      clear h1 h2
      go_enter Tryz.func71, Tryz.ntmps71
      go_wp2_with fail
      go_ret
      exact ⟨by rw [HR.out]; rfl, ((GrowsD.refl _).alloc _).alloc _⟩
  · have e1 : (s.toList == s'.toList) = false := by rw [beq_eq_false_iff_ne, ByteArray.toList_eq, ByteArray.toList_eq]; exact fun h => h1 (data_inj h)
    have HR : Hid (aheadT (s, p, o) (s', p', o') = Op.bytesLess s.toList s'.toList) := Lib.hid (by
      unfold aheadT aheadL; rw [if_neg (fun h => h1 (data_inj h)), ByteArray.toList_eq, ByteArray.toList_eq])
    clear h1
    go_enter Tryz.func71, Tryz.ntmps71
    go_wp2_with fail
    go_ret
    exact ⟨by rw [HR.out]; rfl, ((GrowsD.refl _).alloc _).alloc _⟩
set_option maxRecDepth 100000 in
theorem implCompare (x y : Tri3) (w : World) :
    Calls Tryz.prog 89 #[.agg #[.string x.1, .string x.2.1, .string x.2.2], .agg #[.string y.1, .string y.2.1, .string y.2.2]] w fun e w' => e = .returned (.int .i64 (cmpT x y)) ∧ GrowsD w w' := by
  have A1 := implAheadG x y
  have A2 := implAheadG y x
  cases h1 : aheadT x y
  · cases h2 : aheadT y x
    · have HR : Hid (cmpT x y = 0) := Lib.hid (by unfold cmpT; rw [h1, h2]; rfl)
      rw [h1] at A1
      rw [h2] at A2
      have C1 := Lib.hid A1
      have C2 := Lib.hid A2
      clear A1 A2 h1 h2
      go_enter Tryz.func89, Tryz.ntmps89
      go_wp2_with fail
      refine (C1.out _).mono ?_
      rintro e w1 ⟨rfl, g1⟩
      have X1 := ((Box.new w (.string x.1) (.string x.2.1) (.string x.2.2) 26).alloc (.cells #[.string y.1, .string y.2.1, .string y.2.2] 26)).next g1.below
      have Y1 := (Box.new (w.alloc (.cells #[.string x.1, .string x.2.1, .string x.2.2] 26)) (.string y.1) (.string y.2.1) (.string y.2.2) 26).next g1.below
      rw [World.size_alloc] at Y1
      obtain ⟨a0, a1, a2⟩ := X1.cells
      obtain ⟨b0, b1, b2⟩ := Y1.cells
      have G1 := ((GrowsD.refl w).alloc (.cells #[.string x.1, .string x.2.1, .string x.2.2] 26)).alloc (.cells #[.string y.1, .string y.2.1, .string y.2.2] 26) |>.trans g1
      clear X1 Y1 g1
      go_wp2_with fail
      refine (C2.out _).mono ?_
      rintro e w2 ⟨rfl, g2⟩
      go_wp2_with fail
      go_ret
      exact ⟨by rw [HR.out]; rfl, G1.trans g2⟩
    · have HR : Hid (cmpT x y = 1) := Lib.hid (by unfold cmpT; rw [h1, h2]; rfl)
      rw [h1] at A1
      rw [h2] at A2
      have C1 := Lib.hid A1
      have C2 := Lib.hid A2
      clear A1 A2 h1 h2
      go_enter Tryz.func89, Tryz.ntmps89
      go_wp2_with fail
      refine (C1.out _).mono ?_
      rintro e w1 ⟨rfl, g1⟩
      have X1 := ((Box.new w (.string x.1) (.string x.2.1) (.string x.2.2) 26).alloc (.cells #[.string y.1, .string y.2.1, .string y.2.2] 26)).next g1.below
      have Y1 := (Box.new (w.alloc (.cells #[.string x.1, .string x.2.1, .string x.2.2] 26)) (.string y.1) (.string y.2.1) (.string y.2.2) 26).next g1.below
      rw [World.size_alloc] at Y1
      obtain ⟨a0, a1, a2⟩ := X1.cells
      obtain ⟨b0, b1, b2⟩ := Y1.cells
      have G1 := ((GrowsD.refl w).alloc (.cells #[.string x.1, .string x.2.1, .string x.2.2] 26)).alloc (.cells #[.string y.1, .string y.2.1, .string y.2.2] 26) |>.trans g1
      clear X1 Y1 g1
      go_wp2_with fail
      refine (C2.out _).mono ?_
      rintro e w2 ⟨rfl, g2⟩
      go_wp2_with fail
      go_ret
      exact ⟨by rw [HR.out]; rfl, G1.trans g2⟩
  · have HR : Hid (cmpT x y = -1) := Lib.hid (by unfold cmpT; rw [h1]; rfl)
    rw [h1] at A1
    have C1 := Lib.hid A1
    clear A1 A2 h1
    go_enter Tryz.func89, Tryz.ntmps89
    go_wp2_with fail
    refine (C1.out _).mono ?_
    rintro e w1 ⟨rfl, g1⟩
    go_wp2_with fail
    go_ret
    exact ⟨by rw [HR.out]; rfl, (((GrowsD.refl w).alloc _).alloc _).trans g1⟩
end Go.Proofs.YtnjphlaohihbaaaGreat
/-
  DERIVED: THE SHELF's CONTRACTS AT THIS DUMP, IN PLAIN WORDS (tools/lay-plain.mjs out of 'SrtShelf.lean', which tools/lay-shelf.mjs wrote): THE SAME DECLARATIONS UNDER THE SAME NAMES: 'import', 'namespace', 'open', 'def', 'theorem' AND NOTHING ELSE: no command of the shelf's: FOR A HAND-IN. Each laying: the table of numbers ('.._ren') and one theorem, a field a fact of the dump's own or the kernel's comparison; each contract: ONE APPLICATION.
-/
namespace Go.Proofs
open Go.Shelf
def Tryz.sortTri_ren : Go.Shelf.Ren := ⟨fun | 6 => 97 | 15 => 95 | 14 => 113 | 28 => 110 | 29 => 111 | 20 => 122 | 21 => 123 | 22 => 124 | 23 => 125 | 24 => 126 | 25 => 127 | 26 => 128 | 27 => 129 | 46 => 132 | 47 => 117 | 48 => 118 | 49 => 133 | 50 => 134 | 57 => 135 | n => n, fun | 22 => 33 | 24 => 26 | 25 => 118 | 3 => 3 | 39 => 124 | 0 => 0 | 53 => 137 | 55 => 139 | 4 => 4 | 46 => 129 | 45 => 128 | 50 => 134 | 5 => 5 | 9 => 9 | 66 => 142 | 70 => 146 | 76 => 153 | 77 => 154 | n => n, fun | n => n⟩
theorem Tryz.sortTri : Go.Proofs.SlLaysF0.n6 Tryz.prog Tryz.sortTri_ren := {
  mixed := by kernel_rfl
  f6 := ⟨Tryz.f97.name, by decide, Tryz.func97.trans (congrArg some (by kernel_rfl))⟩
  f14 := ⟨Tryz.f113.name, by decide, Tryz.func113.trans (congrArg some (by kernel_rfl))⟩
  f15 := Tryz.func95.trans (congrArg some (by kernel_rfl))
  f20 := ⟨Tryz.f122.name, by decide, Tryz.func122.trans (congrArg some (by kernel_rfl))⟩
  f21 := ⟨Tryz.f123.name, by decide, Tryz.func123.trans (congrArg some (by kernel_rfl))⟩
  f22 := ⟨Tryz.f124.name, by decide, Tryz.func124.trans (congrArg some (by kernel_rfl))⟩
  f23 := ⟨Tryz.f125.name, by decide, Tryz.func125.trans (congrArg some (by kernel_rfl))⟩
  f24 := ⟨Tryz.f126.name, by decide, Tryz.func126.trans (congrArg some (by kernel_rfl))⟩
  f25 := ⟨Tryz.f127.name, by decide, Tryz.func127.trans (congrArg some (by kernel_rfl))⟩
  f26 := ⟨Tryz.f128.name, by decide, Tryz.func128.trans (congrArg some (by kernel_rfl))⟩
  f27 := ⟨Tryz.f129.name, by decide, Tryz.func129.trans (congrArg some (by kernel_rfl))⟩
  f28 := Tryz.func110.trans (congrArg some (by kernel_rfl))
  f29 := Tryz.func111.trans (congrArg some (by kernel_rfl))
  f46 := ⟨Tryz.f132.name, by decide, Tryz.func132.trans (congrArg some (by kernel_rfl))⟩
  f47 := Tryz.func117.trans (congrArg some (by kernel_rfl))
  f48 := Tryz.func118.trans (congrArg some (by kernel_rfl))
  f49 := ⟨Tryz.f133.name, by decide, Tryz.func133.trans (congrArg some (by kernel_rfl))⟩
  f50 := ⟨Tryz.f134.name, by decide, Tryz.func134.trans (congrArg some (by kernel_rfl))⟩
  f57 := ⟨Tryz.f135.name, by decide, Tryz.func135.trans (congrArg some (by kernel_rfl))⟩
  t0 := Tryz.underlying0
  a0 := Tryz.isAgg0
  z0 := Tryz.sizeOf0
  v0 := Tryz.zeroValue0
  t3 := Tryz.underlying3
  a3 := Tryz.isAgg3
  z3 := Tryz.sizeOf3
  v3 := Tryz.zeroValue3
  t4 := Tryz.underlying4
  a4 := Tryz.isAgg4
  z4 := Tryz.sizeOf4
  v4 := Tryz.zeroValue4
  t5 := Tryz.underlying5
  a5 := Tryz.isAgg5
  z5 := Tryz.sizeOf5
  v5 := Tryz.zeroValue5
  t9 := Tryz.underlying9
  a9 := Tryz.isAgg9
  z9 := Tryz.sizeOf9
  v9 := Tryz.zeroValue9
  t22 := Tryz.underlying33
  a22 := Tryz.isAgg33
  z22 := Tryz.sizeOf33
  v22 := Tryz.zeroValue33
  t25 := Tryz.underlying118
  a25 := Tryz.isAgg118
  z25 := Tryz.sizeOf118
  v25 := Tryz.zeroValue118
  t39 := Tryz.underlying124
  a39 := Tryz.isAgg124
  z39 := Tryz.sizeOf124
  v39 := Tryz.zeroValue124
  t45 := Tryz.underlying128
  a45 := Tryz.isAgg128
  z45 := Tryz.sizeOf128
  v45 := Tryz.zeroValue128
  t46 := Tryz.underlying129
  a46 := Tryz.isAgg129
  z46 := Tryz.sizeOf129
  v46 := Tryz.zeroValue129
  t50 := Tryz.underlying134
  a50 := Tryz.isAgg134
  z50 := Tryz.sizeOf134
  v50 := Tryz.zeroValue134
  t53 := Tryz.underlying137
  a53 := Tryz.isAgg137
  z53 := Tryz.sizeOf137
  v53 := Tryz.zeroValue137
  t55 := Tryz.underlying139
  a55 := Tryz.isAgg139
  z55 := Tryz.sizeOf139
  v55 := Tryz.zeroValue139
  t66 := Tryz.underlying142
  a66 := Tryz.isAgg142
  z66 := Tryz.sizeOf142
  v66 := Tryz.zeroValue142
  t70 := Tryz.underlying146
  a70 := Tryz.isAgg146
  z70 := Tryz.sizeOf146
  v70 := Tryz.zeroValue146
  t76 := Tryz.underlying153
  a76 := Tryz.isAgg153
  z76 := Tryz.sizeOf153
  v76 := Tryz.zeroValue153
  t77 := Tryz.underlying154
  a77 := Tryz.isAgg154
  z77 := Tryz.sizeOf154
  v77 := Tryz.zeroValue154 }
end Go.Proofs
/- A row of triples that the library sorts: its cells, and what the sort leaves of them. -/
namespace Go.Proofs.YtnjphlaohihbaaaGreat
open Go.RowKit Go.Sort Go.Shelf
theorem ltT (x y : Tri3) : ltOf cmpT x y = aheadT x y := by
  unfold ltOf cmpT
  cases h : aheadT x y
  · cases g : aheadT y x <;> simp
  · simp
theorem swoT : SWO (ltOf cmpT) where
  irrefl x := by rw [ltT]; simp [aheadT_irrefl]
  trans x y z h1 h2 := by
    rw [ltT] at *
    exact aheadT_trans h1 h2
  ntrans x y z h1 h2 := by
    rw [ltT] at *
    cases g : aheadT x z
    · simp
    · exfalso
      cases g1 : aheadT z y
      · rw [aheadT_one h2 g1] at h1; rw [h1] at g; cases g
      · rw [aheadT_trans g g1] at h1; cases h1
def encL (t : Tri3) : List Value := [.string t.1, .string t.2.1, .string t.2.2]
theorem encL_len (t : Tri3) : (encL t).length = 3 := rfl
theorem encL_one (t : Tri3) : ∀ v ∈ encL t, v.oneCell' = true := by
  intro v hv
  simp only [encL, List.mem_cons, List.not_mem_nil, or_false] at hv
  rcases hv with rfl | rfl | rfl <;> rfl
theorem flatK_flat (ts : List Tri3) : (flatK encL 3 ts.toArray).toList = flat ts := by
  apply List.ext_getElem?
  intro t
  obtain ⟨q, r, hr, rfl⟩ : ∃ q r, r < 3 ∧ t = q * 3 + r := ⟨t / 3, t % 3, by omega, by omega⟩
  rcases Nat.lt_or_ge q ts.length with hq | hq
  · have hf := flat_at ts q ts[q] (List.getElem?_eq_getElem hq)
    have h1 : (q * 3 + r) / 3 = q := by omega
    have h2 : (q * 3 + r) % 3 = r := by omega
    have h3 : q * 3 + r < ts.length * 3 := by omega
    have e1 : (flatK encL 3 ts.toArray).toList[q * 3 + r]? = some (encL ts[q])[r]! := by
      rw [Array.getElem?_toList]
      simp [flatK, h1, h2, h3, hq]
    rw [e1]
    have hm : r = 0 ∨ r = 1 ∨ r = 2 := by omega
    rcases hm with rfl | rfl | rfl
    · rw [Nat.add_zero, hf.1]; rfl
    · rw [hf.2.1]; rfl
    · rw [hf.2.2]; rfl
  · rw [List.getElem?_eq_none (by simp [flatK]; omega), List.getElem?_eq_none (by rw [flat_len]; omega)]
theorem holdsK_of_block {w : World} {g : Nat} {cur : Array Value} {e : TypeId} {ts : List Tri3} (hb : w.heap[g]? = some (.cells cur e (0, 0))) (ht : cur.toList.take (ts.length * 3) = flat ts) : HoldsK encL 3 w g 0 ts.toArray := by
  intro j hj
  have hj' : j < ts.length * 3 := by simpa using hj
  refine ⟨?_, by simp [World.frozen?, hb]⟩
  have h1 : (cur.toList.take (ts.length * 3))[j]? = (flat ts)[j]? := by rw [ht]
  rw [List.getElem?_take_of_lt hj', ← flatK_flat, Array.getElem?_toList, Array.getElem?_toList] at h1
  simp only [World.cell?, hb, Nat.zero_add]
  simp only [Option.isSome_none, Bool.false_eq_true, if_false]
  rw [h1, Array.getElem?_eq_getElem hj, getElem!_pos _ j hj]; rfl
theorem heap_sortedK {w : World} {g n : Nat} {os : Array Obj} {cur : Array Value} {e : TypeId} {fr : Nat × Nat} (F : Array Value) (hb : w.heap[g]? = some (.cells cur e fr)) :
    (grow (putRow id (Sort.ahead w n) g 0 F) os).heap[g]? = some (.cells (putCells id 0 F cur) e fr) := by
  have hg : g < w.heap.size := (Array.getElem?_eq_some_iff.1 hb).1
  rw [heap_grow_old _ _ (by simpa using hg)]
  simp [putRow, mapBlock, Sort.ahead, Array.getElem?_modify, hb, onCells]
theorem grownBy_sortedK {w : World} {g n : Nat} {os : Array Obj} (F : Array Value) : w.grownBy (grow (putRow id (Sort.ahead w n) g 0 F) os) (some g) := by
  refine ⟨rfl, rfl, rfl, by simp, fun k hk hne => ?_⟩
  rw [heap_grow_old _ _ (by simpa using hk)]
  have : g ≠ k := fun e => hne (by rw [e])
  simp [putRow, mapBlock, Sort.ahead, Array.getElem?_modify, this]
theorem take_putCellsK (cur F : Array Value) (h : F.size ≤ cur.size) : (putCells id 0 F cur).toList.take F.size = F.toList := by
  apply List.ext_getElem?
  intro j
  by_cases hj : j < F.size
  · rw [List.getElem?_take_of_lt hj, Array.getElem?_toList, Array.getElem?_toList]
    simp [putCells, hj, show j < cur.size by omega]
  · rw [List.getElem?_take_eq_none (by omega), List.getElem?_eq_none (by simp; omega)]
theorem own_sortedK {w : World} {B g cap n : Nat} {os : Array Obj} {cur : Array Value} {ss ts : List Tri3} (hl : ts.length = ss.length) (hbase : B ≤ g) (hb : w.heap[g]? = some (.cells cur 26 (0, 0)))
    (h1 : ss.length ≤ cap) (h2 : cap ≤ maxLen) (h3 : cur.size = cap * 3) :
    OwnT B (sortWorldK encL 3 w g 0 n ts.toArray os) (.slice (some ⟨g, 0, none⟩) ss.length cap) ts := by
  unfold OwnT sortWorldK putRowK
  rw [hl]
  refine ⟨by rw [flat_len, hl], .inr ⟨g, cap, _, rfl, hbase, heap_sortedK _ hb, h1, h2, by simp [putCells, h3], ?_⟩⟩
  have e : (flatK encL 3 ts.toArray).size = ss.length * 3 := by simp [hl]
  rw [← e, take_putCellsK _ _ (by rw [e, h3]; omega), flatK_flat]
open Go.RowKit Go.Sort Go.Shelf
theorem aggTri (w : World) : (isAgg 26).run Tryz.prog w = .ok true w := by simp [isAgg, run_underlying Tryz.underlying26]
theorem sizeTri (w : World) : (Go.sizeOf 26).run Tryz.prog w = .ok 3 w := by
  obtain ⟨i0, hi, hz0, hz1, hz2⟩ := info_parts infoTri
  rw [run_sizeOf w hi]
  exact congrArg (fun n => Result.ok n w) (by kernel_rfl)
theorem mergeT (ts : List Tri3) : (ts.mergeSort fun x y => !(ltOf cmpT) y x) = sortT ts := by
  unfold sortT
  congr 1
  funext x y
  rw [ltT]
set_option maxRecDepth 100000 in
/-- The sort of a slice of triples that the call owns. -/
theorem sortTris (B : Nat) (v : Value) (ts : List Tri3) (w : World) (h : OwnT B w v ts) (hl : ts.length < 4611686018427387904) :
    Calls Tryz.prog 97 #[v, .func (.func 89) #[] #[]] w fun e w' => e = .returned (.tuple #[]) ∧ OwnT B w' v (sortT ts) ∧ w.grownBy w' v.ownBlock := by
  have h' := h
  rcases h'.2 with ⟨rfl, h0⟩ | ⟨g, cap, cur, rfl, hB, hb, h1, h2, h3, h4⟩
  · obtain rfl : ts = [] := List.length_eq_zero_iff.1 h0
    refine (AnyF.slices_SortFunc_none Tryz.sortTri none 0 _ w).mono ?_
    rintro e w' ⟨rfl, rfl⟩
    exact ⟨rfl, by rw [show sortT [] = [] from by unfold sortT; simp]; exact h, World.grownBy.refl _ _⟩
  · have eg : ∀ args w, (callFunc 89 args).run Tryz.prog w = .ok (.enter 89 args) w := enters_of Tryz.func89 (by kernel_rfl) rfl
    have hcmp : CmpLays Tryz.prog 89 #[] encL 3 cmpT g 0 ts.toArray.size w := fun _ _ _ _ x y => implCompare x y _
    have hS := AnyQ.slices_SortFunc_total Tryz.sortTri 3 aggTri sizeTri encL encL_len encL_one cmpT swoT _ #[] g 0 cap ts.toArray w eg hcmp (holdsK_of_block hb h4) (Array.getElem?_eq_some_iff.1 hb).1 (by simpa using hl) (fun x y a b => by rw [ltT] at a b; exact aheadT_one a b)
    change Calls Tryz.prog 97 _ _ _ at hS
    rw [Array.size_eq_length_toList, List.toList_toArray] at hS
    refine hS.mono ?_
    rintro e w' ⟨rfl, n, os, rfl⟩
    rw [mergeT]
    exact ⟨rfl, own_sortedK (sortT_len ts) hB hb h1 h2 h3, grownBy_sortedK _⟩
end Go.Proofs.YtnjphlaohihbaaaGreat
