/- The specification's look for a triple. -/
import Derived.Test.YtiajdnhmjdfeeaaGreatG39
import Derived.Test.YtiajdnhmjdfeeaaGreatG01
import Derived.Deep.QuietTactic
import Derived.BigQuiet
import Derived.Laws.AppendOwnNone
import Derived.Deep.RegionHeld3
import Derived.Test.YtiajdnhmjdfeeaaGreatG08
import Derived.Test.YtiajdnhmjdfeeaaGreatG31
import Derived.Sort.Grow
import Derived.Sort.WalkA
import Derived.Shelf.SlSortCmp.NoneTotal
import Derived.Shelf.SlGeneric
import Derived.Ground.SlsfProg
import Derived.Ground.SlgmProg
import Derived.Test.YtiajdnhmjdfeeaaGreatProg
namespace Go.Proofs.YtiajdnhmjdfeeaaGreat
open Go.RowKit Go.WideShapes
set_option maxRecDepth 100000 in
set_option maxHeartbeats 1600000 in
theorem specHas2 (a : Option Addr) (len cap : Nat) (ts : List Tri3) (s p o : ByteArray) (w : World) (h : IsTris w a len cap ts) (hl : len ≤ 1048576) :
    Calls Tryz.prog 132 #[.slice a len cap, .agg #[.string s, .string p, .string o]] w fun e w' => e = .returned (.bool (decide ((s, p, o) ∈ ts))) ∧ Below w.heap.size w w' := by
  have H := Lib.hid h
  have HT := Lib.hid h.len
  have B0 := (Below.refl w.heap.size w).alloc (Nat.le_refl _) (.cells #[.string s, .string p, .string o] 65)
  have X0 := Box.new w (.string s) (.string p) (.string o) 65
  clear h
  go_enter Tryz.func132, Tryz.ntmps132
  go_wp2_with fail
  go_loopw [5] (fun i wr => ∃ k : Nat, k ≤ len ∧ i = .int .i64 k ∧ Hid ((s, p, o) ∉ ts.take k) ∧ Hid (Box wr w.heap.size (.string s) (.string p) (.string o) 65) ∧ Below w.heap.size w wr) (fun i _ => len - (intOf i).toNat)
  case atStart => exact ⟨0, Nat.zero_le _, rfl, Lib.hid (by simp), Lib.hid X0, B0⟩
  case round =>
    obtain ⟨k, hk, rfl, hnot, hbox, hnx⟩ := hrel
    clear X0 B0
    have hk6 : (0 : Int) ≤ (k : Int) := by omega
    have hk8 : k ≤ 1048576 := by omega
    by_cases hlt : k < len
    · have hk7 : (k : Int) < (len : Int) := by omega
      obtain ⟨b, off, rfl, hb, hl', hm, hts, hcs⟩ := H.out.cells (by omega)
      have ht : ts[k]? = some (ts[k]'(by omega)) := List.getElem?_eq_getElem (by omega)
      have HS : Hid (ts.take (k + 1) = ts.take k ++ [ts[k]'(by omega)]) := Lib.hid (List.take_succ_eq_append_getElem (by omega))
      obtain ⟨d0, d1, d2, m0, m1, m2⟩ := hcs k _ ht
      rw [← hnx.cell (p := ⟨b, _, none⟩) hb] at d0 d1 d2
      generalize ts[k]'(by omega) = u at ht d0 d1 d2 m0 m1 m2 HS
      obtain ⟨c0, c1, c2⟩ := hbox.out.cells
      by_cases he : u = (s, p, o)
      · subst he
        have HR : Hid (decide ((s, p, o) ∈ ts) = true) := Lib.hid (decide_eq_true (List.mem_of_getElem? ht))
        have EQ := tri_is s p o
        simp only at d0 d1 d2
        clear ht hts hcs hm m0 m1 m2 hl' hnot HS
        go_wp2_with fail
        go_quiet (fail)
        clear EQ
        go_wp2_with fail
        go_ret
        exact ⟨by rw [HR.out]; rfl, below_drewN hnx nq⟩
      · have EQ := tri_isnt he
        simp only at EQ
        have HN : Hid ((s, p, o) ∉ ts.take (k + 1)) := Lib.hid (by
          rw [HS.out, List.mem_append]
          rintro (h | h)
          · exact hnot.out h
          · exact he (List.mem_singleton.1 h).symm)
        have X1 : Hid (∀ n, Box (wr.drewN n) w.heap.size (.string s) (.string p) (.string o) 65) := Lib.hid (fun n => hbox.out)
        have HB : Hid (∀ n, Below w.heap.size w (wr.drewN n)) := Lib.hid (fun n => below_drewN hnx n)
        clear ht hts hcs hm m0 m1 m2 hl' hnot HS he
        go_wp2_with fail
        go_quiet (fail)
        clear EQ
        go_wp2_with fail
        go_roundw
        case rel => exact ⟨k + 1, by omega, by go_num, HN, Lib.hid (X1.out _), HB.out _⟩
        case measure => simp [intOf]; omega
    · obtain rfl : k = len := by omega
      have HR : Hid (decide ((s, p, o) ∈ ts) = false) := Lib.hid (decide_eq_false (by
        have := hnot.out
        rwa [List.take_of_length_le (by rw [HT.out]; exact Nat.le_refl _)] at this))
      go_wp2_with fail
      go_ret
      exact ⟨by rw [HR.out]; rfl, hnx⟩
end Go.Proofs.YtiajdnhmjdfeeaaGreat
/- The program's comparison of triples: the world behind it, written out. -/
namespace Go.Proofs.YtiajdnhmjdfeeaaGreat
open Go.RowKit Go.Sort Go.Shelf
/-- Draws and new blocks alone, written out. -/
def GrowsD (w w' : World) : Prop := ∃ q os, w' = grow (w.drewN q) os
theorem GrowsD.refl (w : World) : GrowsD w w := ⟨0, #[], by rw [grow_empty]; rfl⟩
theorem GrowsD.trans {a b c : World} (h : GrowsD a b) (g : GrowsD b c) : GrowsD a c := by
  obtain ⟨q, os, rfl⟩ := h
  obtain ⟨r, os', rfl⟩ := g
  exact ⟨q + r, os ++ os', by rw [← grow_grow]; simp only [World.drewN, grow]; simp [Nat.add_assoc]⟩
theorem GrowsD.drew {a b : World} (h : GrowsD a b) : GrowsD a b.drew := h.trans ⟨1, #[], by rw [grow_empty]; rfl⟩
theorem GrowsD.drewN {a b : World} (h : GrowsD a b) (n : Nat) : GrowsD a (b.drewN n) := h.trans ⟨n, #[], by rw [grow_empty]⟩
theorem GrowsD.alloc {a b : World} (h : GrowsD a b) (o : Obj) : GrowsD a (b.alloc o) := h.trans ⟨0, #[o], by rw [alloc_eq_grow]; rfl⟩
theorem GrowsD.below {w w' : World} (h : GrowsD w w') : Below w.heap.size w w' := by
  obtain ⟨q, os, rfl⟩ := h
  refine ⟨rfl, rfl, rfl, by simp, fun k hk => ?_⟩
  simp [grow, World.drewN, Array.getElem?_append_left hk]
def cmpT (x y : Tri3) : Int := if aheadT x y = true then -1 else if aheadT y x = true then 1 else 0
set_option maxRecDepth 100000 in
theorem implAheadG (x y : Tri3) (w : World) :
    Calls Tryz.prog 116 #[.agg #[.string x.1, .string x.2.1, .string x.2.2], .agg #[.string y.1, .string y.2.1, .string y.2.2]] w fun e w' => e = .returned (.bool (aheadT x y)) ∧ GrowsD w w' := by
  obtain ⟨s, p, o⟩ := x
  obtain ⟨s', p', o'⟩ := y
  by_cases h1 : s = s'
  · by_cases h2 : p = p'
    · have e1 : (s.toList == s'.toList) = true := by rw [h1]; simp
      have e2 : (p.toList == p'.toList) = true := by rw [h2]; simp
      have HR : Hid (aheadT (s, p, o) (s', p', o') = Op.bytesLess o.toList o'.toList) := Lib.hid (by
        unfold aheadT aheadL; rw [if_pos (by rw [h1]), if_pos (by rw [h2]), ByteArray.toList_eq, ByteArray.toList_eq])
      clear h1 h2
      go_enter Tryz.func116, Tryz.ntmps116
      go_wp2_with fail
      go_ret
      exact ⟨by rw [HR.out]; rfl, ((GrowsD.refl _).alloc _).alloc _⟩
    · have e1 : (s.toList == s'.toList) = true := by rw [h1]; simp
      have e2 : (p.toList == p'.toList) = false := by rw [beq_eq_false_iff_ne, ByteArray.toList_eq, ByteArray.toList_eq]; exact fun h => h2 (data_inj h)
      have HR : Hid (aheadT (s, p, o) (s', p', o') = Op.bytesLess p.toList p'.toList) := Lib.hid (by
        unfold aheadT aheadL; rw [if_pos (by rw [h1]), if_neg (fun h => h2 (data_inj h)), ByteArray.toList_eq, ByteArray.toList_eq])
      clear h1 h2
      go_enter Tryz.func116, Tryz.ntmps116
      go_wp2_with fail
      go_ret
      exact ⟨by rw [HR.out]; rfl, ((GrowsD.refl _).alloc _).alloc _⟩
  · have e1 : (s.toList == s'.toList) = false := by rw [beq_eq_false_iff_ne, ByteArray.toList_eq, ByteArray.toList_eq]; exact fun h => h1 (data_inj h)
    have HR : Hid (aheadT (s, p, o) (s', p', o') = Op.bytesLess s.toList s'.toList) := Lib.hid (by
      unfold aheadT aheadL; rw [if_neg (fun h => h1 (data_inj h)), ByteArray.toList_eq, ByteArray.toList_eq])
    clear h1
    go_enter Tryz.func116, Tryz.ntmps116
    go_wp2_with fail
    go_ret
    exact ⟨by rw [HR.out]; rfl, ((GrowsD.refl _).alloc _).alloc _⟩
set_option maxRecDepth 100000 in
theorem implCompare (x y : Tri3) (w : World) :
    Calls Tryz.prog 172 #[.agg #[.string x.1, .string x.2.1, .string x.2.2], .agg #[.string y.1, .string y.2.1, .string y.2.2]] w fun e w' => e = .returned (.int .i64 (cmpT x y)) ∧ GrowsD w w' := by
  have A1 := implAheadG x y
  have A2 := implAheadG y x
  cases h1 : aheadT x y
  · cases h2 : aheadT y x
    · have HR : Hid (cmpT x y = 0) := Lib.hid (by unfold cmpT; rw [h1, h2]; rfl)
      rw [h1] at A1
      rw [h2] at A2
      have C1 := Lib.hid A1
      have C2 := Lib.hid A2
      clear A1 A2 h1 h2
      go_enter Tryz.func172, Tryz.ntmps172
      go_wp2_with fail
      refine (C1.out _).mono ?_
      rintro e w1 ⟨rfl, g1⟩
      have X1 := ((Box.new w (.string x.1) (.string x.2.1) (.string x.2.2) 65).alloc (.cells #[.string y.1, .string y.2.1, .string y.2.2] 65)).next g1.below
      have Y1 := (Box.new (w.alloc (.cells #[.string x.1, .string x.2.1, .string x.2.2] 65)) (.string y.1) (.string y.2.1) (.string y.2.2) 65).next g1.below
      rw [World.size_alloc] at Y1
      obtain ⟨a0, a1, a2⟩ := X1.cells
      obtain ⟨b0, b1, b2⟩ := Y1.cells
      have G1 := ((GrowsD.refl w).alloc (.cells #[.string x.1, .string x.2.1, .string x.2.2] 65)).alloc (.cells #[.string y.1, .string y.2.1, .string y.2.2] 65) |>.trans g1
      clear X1 Y1 g1
      go_wp2_with fail
      refine (C2.out _).mono ?_
      rintro e w2 ⟨rfl, g2⟩
      go_wp2_with fail
      go_ret
      exact ⟨by rw [HR.out]; rfl, G1.trans g2⟩
    · have HR : Hid (cmpT x y = 1) := Lib.hid (by unfold cmpT; rw [h1, h2]; rfl)
      rw [h1] at A1
      rw [h2] at A2
      have C1 := Lib.hid A1
      have C2 := Lib.hid A2
      clear A1 A2 h1 h2
      go_enter Tryz.func172, Tryz.ntmps172
      go_wp2_with fail
      refine (C1.out _).mono ?_
      rintro e w1 ⟨rfl, g1⟩
      have X1 := ((Box.new w (.string x.1) (.string x.2.1) (.string x.2.2) 65).alloc (.cells #[.string y.1, .string y.2.1, .string y.2.2] 65)).next g1.below
      have Y1 := (Box.new (w.alloc (.cells #[.string x.1, .string x.2.1, .string x.2.2] 65)) (.string y.1) (.string y.2.1) (.string y.2.2) 65).next g1.below
      rw [World.size_alloc] at Y1
      obtain ⟨a0, a1, a2⟩ := X1.cells
      obtain ⟨b0, b1, b2⟩ := Y1.cells
      have G1 := ((GrowsD.refl w).alloc (.cells #[.string x.1, .string x.2.1, .string x.2.2] 65)).alloc (.cells #[.string y.1, .string y.2.1, .string y.2.2] 65) |>.trans g1
      clear X1 Y1 g1
      go_wp2_with fail
      refine (C2.out _).mono ?_
      rintro e w2 ⟨rfl, g2⟩
      go_wp2_with fail
      go_ret
      exact ⟨by rw [HR.out]; rfl, G1.trans g2⟩
  · have HR : Hid (cmpT x y = -1) := Lib.hid (by unfold cmpT; rw [h1]; rfl)
    rw [h1] at A1
    have C1 := Lib.hid A1
    clear A1 A2 h1
    go_enter Tryz.func172, Tryz.ntmps172
    go_wp2_with fail
    refine (C1.out _).mono ?_
    rintro e w1 ⟨rfl, g1⟩
    go_wp2_with fail
    go_ret
    exact ⟨by rw [HR.out]; rfl, (((GrowsD.refl w).alloc _).alloc _).trans g1⟩
end Go.Proofs.YtiajdnhmjdfeeaaGreat
/-
  DERIVED: THE SHELF's CONTRACTS AT THIS DUMP, IN PLAIN WORDS (tools/lay-plain.mjs out of 'SrtShelf.lean', which tools/lay-shelf.mjs wrote): THE SAME DECLARATIONS UNDER THE SAME NAMES: 'import', 'namespace', 'open', 'def', 'theorem' AND NOTHING ELSE: no command of the shelf's: FOR A HAND-IN. Each laying: the table of numbers ('.._ren') and one theorem, a field a fact of the dump's own or the kernel's comparison; each contract: ONE APPLICATION.
-/
namespace Go.Proofs
open Go.Shelf
def Tryz.sortTri_ren : Go.Shelf.Ren := ⟨fun | 6 => 194 | 15 => 167 | 14 => 205 | 28 => 191 | 29 => 192 | 20 => 209 | 21 => 210 | 22 => 211 | 23 => 212 | 24 => 213 | 25 => 214 | 26 => 215 | 27 => 216 | 46 => 219 | 47 => 199 | 48 => 200 | 49 => 220 | 50 => 221 | 57 => 223 | n => n, fun | 22 => 31 | 24 => 65 | 25 => 198 | 3 => 3 | 39 => 188 | 0 => 0 | 53 => 213 | 55 => 215 | 4 => 4 | 46 => 207 | 45 => 206 | 50 => 112 | 5 => 5 | 9 => 9 | 66 => 220 | 70 => 224 | 76 => 228 | 77 => 229 | n => n, fun | n => n⟩
theorem Tryz.sortTri : Go.Proofs.SlLaysF0.n6 Tryz.prog Tryz.sortTri_ren := {
  mixed := by kernel_rfl
  f6 := ⟨Tryz.f194.name, by decide, Tryz.func194.trans (congrArg some (by kernel_rfl))⟩
  f14 := ⟨Tryz.f205.name, by decide, Tryz.func205.trans (congrArg some (by kernel_rfl))⟩
  f15 := Tryz.func167.trans (congrArg some (by kernel_rfl))
  f20 := ⟨Tryz.f209.name, by decide, Tryz.func209.trans (congrArg some (by kernel_rfl))⟩
  f21 := ⟨Tryz.f210.name, by decide, Tryz.func210.trans (congrArg some (by kernel_rfl))⟩
  f22 := ⟨Tryz.f211.name, by decide, Tryz.func211.trans (congrArg some (by kernel_rfl))⟩
  f23 := ⟨Tryz.f212.name, by decide, Tryz.func212.trans (congrArg some (by kernel_rfl))⟩
  f24 := ⟨Tryz.f213.name, by decide, Tryz.func213.trans (congrArg some (by kernel_rfl))⟩
  f25 := ⟨Tryz.f214.name, by decide, Tryz.func214.trans (congrArg some (by kernel_rfl))⟩
  f26 := ⟨Tryz.f215.name, by decide, Tryz.func215.trans (congrArg some (by kernel_rfl))⟩
  f27 := ⟨Tryz.f216.name, by decide, Tryz.func216.trans (congrArg some (by kernel_rfl))⟩
  f28 := Tryz.func191.trans (congrArg some (by kernel_rfl))
  f29 := Tryz.func192.trans (congrArg some (by kernel_rfl))
  f46 := ⟨Tryz.f219.name, by decide, Tryz.func219.trans (congrArg some (by kernel_rfl))⟩
  f47 := Tryz.func199.trans (congrArg some (by kernel_rfl))
  f48 := Tryz.func200.trans (congrArg some (by kernel_rfl))
  f49 := ⟨Tryz.f220.name, by decide, Tryz.func220.trans (congrArg some (by kernel_rfl))⟩
  f50 := ⟨Tryz.f221.name, by decide, Tryz.func221.trans (congrArg some (by kernel_rfl))⟩
  f57 := ⟨Tryz.f223.name, by decide, Tryz.func223.trans (congrArg some (by kernel_rfl))⟩
  t0 := Tryz.underlying0
  a0 := Tryz.isAgg0
  z0 := Tryz.sizeOf0
  v0 := Tryz.zeroValue0
  t3 := Tryz.underlying3
  a3 := Tryz.isAgg3
  z3 := Tryz.sizeOf3
  v3 := Tryz.zeroValue3
  t4 := Tryz.underlying4
  a4 := Tryz.isAgg4
  z4 := Tryz.sizeOf4
  v4 := Tryz.zeroValue4
  t5 := Tryz.underlying5
  a5 := Tryz.isAgg5
  z5 := Tryz.sizeOf5
  v5 := Tryz.zeroValue5
  t9 := Tryz.underlying9
  a9 := Tryz.isAgg9
  z9 := Tryz.sizeOf9
  v9 := Tryz.zeroValue9
  t22 := Tryz.underlying31
  a22 := Tryz.isAgg31
  z22 := Tryz.sizeOf31
  v22 := Tryz.zeroValue31
  t25 := Tryz.underlying198
  a25 := Tryz.isAgg198
  z25 := Tryz.sizeOf198
  v25 := Tryz.zeroValue198
  t39 := Tryz.underlying188
  a39 := Tryz.isAgg188
  z39 := Tryz.sizeOf188
  v39 := Tryz.zeroValue188
  t45 := Tryz.underlying206
  a45 := Tryz.isAgg206
  z45 := Tryz.sizeOf206
  v45 := Tryz.zeroValue206
  t46 := Tryz.underlying207
  a46 := Tryz.isAgg207
  z46 := Tryz.sizeOf207
  v46 := Tryz.zeroValue207
  t50 := Tryz.underlying112
  a50 := Tryz.isAgg112
  z50 := Tryz.sizeOf112
  v50 := Tryz.zeroValue112
  t53 := Tryz.underlying213
  a53 := Tryz.isAgg213
  z53 := Tryz.sizeOf213
  v53 := Tryz.zeroValue213
  t55 := Tryz.underlying215
  a55 := Tryz.isAgg215
  z55 := Tryz.sizeOf215
  v55 := Tryz.zeroValue215
  t66 := Tryz.underlying220
  a66 := Tryz.isAgg220
  z66 := Tryz.sizeOf220
  v66 := Tryz.zeroValue220
  t70 := Tryz.underlying224
  a70 := Tryz.isAgg224
  z70 := Tryz.sizeOf224
  v70 := Tryz.zeroValue224
  t76 := Tryz.underlying228
  a76 := Tryz.isAgg228
  z76 := Tryz.sizeOf228
  v76 := Tryz.zeroValue228
  t77 := Tryz.underlying229
  a77 := Tryz.isAgg229
  z77 := Tryz.sizeOf229
  v77 := Tryz.zeroValue229 }
end Go.Proofs
