/- The contracts of the functions that escape. -/
import Derived.Test.YtilgmjdpoaimiaaDoorBase
import Derived.Test.YtilgmjdpoaimiaaDoorFrame
import Derived.Test.YtilgmjdpoaimiaaDoorOwn
import Derived.WalkSpells
import Derived.WalkLawsBesides
import Derived.Outline
import Derived.Lib.Hide
import Derived.Deep.QuietTactic
import Derived.BigQuiet
import Derived.Maps.AppendAt
import Derived.Deep.RegionWith
import Derived.IntWalk
import Derived.Test.YtilgmjdpoaimiaaDoorBox
import Derived.RegionTactic
namespace Go.Proofs.YtilgmjdpoaimiaaDoor
open Go.RowKit
open Go.RowKit Go.WideShapes
/-- Block g holds a reader over bytes that lie below block B. -/
def Rd (B : Nat) (w : World) (g : Nat) : Prop := B ≤ g ∧ g < w.heap.size ∧ ∃ (a : Option Addr) (len cap : Nat) (zs : List Int) (p : Nat), Frame.IsRow .u8 w a len cap zs ∧ (∀ x, a = some x → 0 < zs.length → x.block < B) ∧
  w.cell? ⟨g, 0, none⟩ = some (.slice a len cap) ∧ w.cell? ⟨g, 1, none⟩ = some (.int .i64 p) ∧ p ≤ len ∧ len ≤ 9223372036854775807 ∧ w.frozen? ⟨g, 1, none⟩ = false
theorem isRow_keep {k : IntKind} {w w' : World} {a : Option Addr} {len cap : Nat} {zs : List Int} (h : Frame.IsRow k w a len cap zs) (hc : ∀ x, a = some x → 0 < zs.length → w'.heap[x.block]? = w.heap[x.block]?) : Frame.IsRow k w' a len cap zs := by
  rcases h with h | ⟨x, rfl, h1, h2, h3, h4, h5⟩
  · exact .inl h
  · refine .inr ⟨x, rfl, h1, h2, h3, fun i hi => ?_, h5⟩
    rw [← h4 i hi]
    refine World.cell?_of_block ?_
    have : (x.add i).block = x.block := by unfold Addr.add; split <;> rfl
    rw [this]
    exact hc x rfl (by omega)
/-- What is left as it was where another block, or none of old, was written. -/
theorem Rd.keep {B g : Nat} {w w' : World} (h : Rd B w g) (hs : w.heap.size ≤ w'.heap.size) (hg : w'.heap[g]? = w.heap[g]?) (hb : ∀ k, k < B → w'.heap[k]? = w.heap[k]?) : Rd B w' g := by
  obtain ⟨hB, hgs, a, len, cap, zs, p, hrow, hlt, hc0, hc1, hp, hlen, hfz⟩ := h
  refine ⟨hB, by omega, a, len, cap, zs, p, isRow_keep hrow fun x hx hz => hb _ (hlt x hx hz), hlt, ?_, ?_, hp, hlen, ?_⟩
  · rw [World.cell?_of_block (w := w) hg]; exact hc0
  · rw [World.cell?_of_block (w := w) hg]; exact hc1
  · rw [World.frozen?_of_block (w := w) hg]; exact hfz
theorem Rd.grown {B g : Nat} {w w' : World} {row : Option Nat} (h : Rd B w g) (hg : w.grownBy w' row) (hr : ∀ k, row = some k → B ≤ k ∧ k ≠ g) : Rd B w' g :=
  have h2 := h.1
  have h3 := h.2.1
  h.keep hg.size (hg.block g h3 fun e => (hr g e.symm).2 rfl) fun k hk => hg.block k (by omega) fun e => by have := (hr k e.symm).1; omega
theorem Rd.alloc {B g : Nat} {w : World} (h : Rd B w g) (o : Obj) : Rd B (w.alloc o) g := h.grown (World.grownBy_alloc w o none) (by simp)
theorem Rd.drewN {B g : Nat} {w : World} (h : Rd B w g) (n : Nat) : Rd B (w.drewN n) g := h.keep (Nat.le_refl _) rfl fun _ _ => rfl
theorem Rd.drew {B g : Nat} {w : World} (h : Rd B w g) : Rd B w.drew g := h.keep (Nat.le_refl _) rfl fun _ _ => rfl
theorem grownBy_drewN {w w' : World} {row : Option Nat} (h : w.grownBy w' row) (n : Nat) : w.grownBy (w'.drewN n) row := ⟨h.os, h.tape, h.output, h.size, h.block⟩
theorem grownBy_drew {w w' : World} {row : Option Nat} (h : w.grownBy w' row) : w.grownBy w'.drew row := ⟨h.os, h.tape, h.output, h.size, h.block⟩
theorem grownBy_set {w w' : World} {g : Nat} (h : w.grownBy w' (some g)) {a : Addr} (ha : a.block = g) (u : Value) : w.grownBy (w'.setCell a u) (some g) := by
  refine ⟨h.os, h.tape, h.output, by have := h.size; simp [World.setCell]; omega, fun k hk hne => ?_⟩
  rw [Below.heap_setCell _ _ _ _ (by intro e; exact hne (by rw [e, ha]))]
  exact h.block k hk hne
theorem rd_step {B g : Nat} {w : World} {a : Option Addr} {len cap p : Nat} {zs : List Int} (hB : B ≤ g) (hg : g < w.heap.size) (hrow : Frame.IsRow .u8 w a len cap zs) (hlt : ∀ x, a = some x → 0 < zs.length → x.block < B)
    (hc0 : w.cell? ⟨g, 0, none⟩ = some (.slice a len cap)) (hc1 : w.cell? ⟨g, 1, none⟩ = some (.int .i64 p)) (hp : p < len) (hlen : len ≤ 9223372036854775807) (hfz : w.frozen? ⟨g, 1, none⟩ = false) (n m : Nat) :
    Rd B (((w.drewN n).setCell ⟨g, 1, none⟩ (.int .i64 ((p : Int) + 1))).drewN m) g ∧ w.grownBy (((w.drewN n).setCell ⟨g, 1, none⟩ (.int .i64 ((p : Int) + 1))).drewN m) (some g) := by
  refine ⟨?_, grownBy_drewN (grownBy_set (grownBy_drewN (World.grownBy.refl _ _) _) rfl _) _⟩
  have H : ∀ k, k ≠ g → ((w.drewN n).setCell ⟨g, 1, none⟩ (.int .i64 ((p : Int) + 1))).heap[k]? = w.heap[k]? := fun k hk => Below.heap_setCell (w.drewN n) _ _ k hk
  refine Rd.drewN (w := (w.drewN n).setCell ⟨g, 1, none⟩ (.int .i64 ((p : Int) + 1))) ?_ m
  refine ⟨hB, by simpa [World.setCell] using hg, a, len, cap, zs, p + 1, isRow_keep hrow fun x hx hz => H _ (by have := hlt x hx hz; omega), hlt, ?_, ?_, hp, hlen, ?_⟩
  · rw [World.cell?_setCell_other _ _ _ _ (by simp)]; exact hc0
  · exact World.cell?_setCell_same (w.drewN n) _ _ (u := .int .i64 p) hc1
  · rw [World.frozen?_setCell]; exact hfz
set_option maxHeartbeats 800000 in
theorem rdNext (B g : Nat) (w : World) (h : Rd B w g) :
    Calls Tryd.prog 26 #[.pointer (some ⟨g, 0, none⟩)] w fun e w' => ∃ n : Nat, n < 256 ∧ e = .returned (.int .i64 n) ∧ Rd B w' g ∧ w.grownBy w' (some g) := by
  obtain ⟨hB, hg, a, len, cap, zs, p, hrow, hlt, hc0, hc1, hp, hlen, hfz⟩ := h
  by_cases hpl : p = len
  · subst hpl
    go_enter Tryd.func26, Tryd.ntmps26
    go_wp2
    go_quiet (fail)
    go_wp2
    go_ret
    exact ⟨0, by omega, rfl, Rd.drewN ⟨hB, hg, a, p, cap, zs, p, hrow, hlt, hc0, hc1, hp, hlen, hfz⟩ _, grownBy_drewN (World.grownBy.refl _ _) _⟩
  · have hpl' : (p : Int) < (len : Int) := by omega
    have hnn : ¬ ((len : Int) ≤ (p : Int)) := by omega
    obtain ⟨rfl, rfl, _, _⟩ | ⟨x, rfl, hlc, hcm, hzl, hcell, hwf⟩ := hrow
    · omega
    obtain ⟨xb, xo, xs⟩ := x
    have hcp := hcell p (by omega)
    obtain rfl : xs = none := by simpa [Addr.add] using World.cell?_spot (hcell 0 (by omega))
    have hxb : xb < B := hlt _ rfl (by omega)
    rw [add_plain] at hcp
    have hcp' : w.cell? ⟨xb, xo + p, none⟩ = some (.int .u8 (zs.getD p 0)) := hcp
    have hne : ¬ xb = g := by omega
    clear hcp
    have hz1 : 0 ≤ zs[p]?.getD 0 ∧ zs[p]?.getD 0 ≤ 255 := by
      have := hwf (zs.getD p 0) (by rw [List.getD, List.getElem?_eq_getElem (by omega)]; exact List.getElem_mem _)
      have := bounds_u8 this
      simpa using this
    obtain ⟨hz1, hz2⟩ := hz1
    have HR := Lib.hid (rd_step hB hg (.inr ⟨_, rfl, hlc, hcm, hzl, hcell, hwf⟩) hlt hc0 hc1 (by omega) hlen hfz)
    have HC := Lib.hid hcell; clear hcell
    have HW := Lib.hid hwf; clear hwf
    have HL := Lib.hid hlt; clear hlt
    have HZ := Lib.hid hzl; clear hzl
    go_enter Tryd.func26, Tryd.ntmps26
    go_wp2
    go_quiet (fail)
    go_wp2
    go_quiet (fail)
    go_wp2
    go_ret
    obtain ⟨n, hn⟩ := Int.eq_ofNat_of_zero_le hz1
    exact ⟨n, by omega, by rw [← hn]; simp, HR.out _ _⟩
set_option maxHeartbeats 800000 in
theorem rdBelow (B g : Nat) (w : World) (h : Rd B w g) (n : Int) (h1 : 1 ≤ n) (h2 : n ≤ 65536) :
    Calls Tryd.prog 18 #[.pointer (some ⟨g, 0, none⟩), .int .i64 n] w fun e w' => ∃ m : Int, 0 ≤ m ∧ m < n ∧ e = .returned (.int .i64 m) ∧ Rd B w' g ∧ w.grownBy w' (some g) := by
  by_cases c1 : n ≤ 1
  · go_enter Tryd.func18, Tryd.ntmps18
    go_wp2_with fail
    go_ret
    exact ⟨0, by omega, by omega, rfl, h, World.grownBy.refl _ _⟩
  by_cases c2 : n ≤ 256
  · go_enter Tryd.func18, Tryd.ntmps18
    go_wp2_with fail
    refine (rdNext B g _ h).mono ?_
    rintro e w1 ⟨x, hx, rfl, hr, hg⟩
    go_wp2_with fail
    go_ret
    exact ⟨x % n, Int.emod_nonneg _ (by omega), Int.emod_lt_of_pos _ (by omega), rfl, hr, hg⟩
  · go_enter Tryd.func18, Tryd.ntmps18
    go_wp2_with fail
    refine (rdNext B g _ h).mono ?_
    rintro e w1 ⟨x, hx, rfl, hr, hg⟩
    go_wp2_with fail
    refine (rdNext B g _ hr).mono ?_
    rintro e w2 ⟨y, hy, rfl, hr2, hg2⟩
    go_wp2_with fail
    go_ret
    exact ⟨(x * 256 + y) % n, Int.emod_nonneg _ (by omega), Int.emod_lt_of_pos _ (by omega), rfl, hr2, hg.trans hg2⟩
theorem lt_of_cell {w : World} {a : Addr} {v : Value} (h : w.cell? a = some v) : a.block < w.heap.size := by
  rcases Nat.lt_or_ge a.block w.heap.size with h1 | h1
  · exact h1
  · simp [World.cell?, Array.getElem?_eq_none h1] at h
theorem add_block (a : Addr) (i : Nat) : (a.add i).block = a.block := by unfold Addr.add; split <;> rfl
set_option maxHeartbeats 400000 in
theorem rdOpen (w : World) (a : Option Addr) (len cap : Nat) (zs : List Int) (hrow : Frame.IsRow .u8 w a len cap zs) :
    Calls Tryd.prog 17 #[.slice a len cap] w fun e w' => e = .returned (.pointer (some ⟨w.heap.size, 0, none⟩)) ∧ Rd w.heap.size w' w.heap.size ∧ w.grownBy w' none := by
  go_enter Tryd.func17, Tryd.ntmps17
  go_wp2
  go_ret
  have hlt : ∀ x, a = some x → 0 < zs.length → x.block < w.heap.size := by
    intro x hx hz
    rcases hrow with ⟨rfl, _⟩ | ⟨y, rfl, h1, h2, h3, h4, h5⟩
    · simp at hx
    · obtain rfl : y = x := by simpa using hx
      have := lt_of_cell (h4 0 hz)
      rwa [add_block] at this
  have hlen : len ≤ 9223372036854775807 := by
    rcases hrow with ⟨_, rfl, _⟩ | ⟨y, _, h1, h2, _⟩
    · omega
    · unfold maxLen at h2; omega
  refine ⟨rfl, ⟨Nat.le_refl _, by simp, a, len, cap, zs, 0, isRow_keep hrow fun x hx hz => Below.heap_alloc _ _ _ (hlt x hx hz), hlt, ?_, ?_, Nat.zero_le _, hlen, ?_⟩, World.grownBy_alloc _ _ _⟩
  · rw [World.cell?_alloc_at _ _ _ _ rfl]; rfl
  · rw [World.cell?_alloc_at _ _ _ _ rfl]; rfl
  · exact World.frozen?_alloc_at _ _ _ _ rfl
open Go.RowKit Go.WideShapes
theorem undrew {w w' : World} {r : Option Nat} (h : w.drew.grownBy w' r) : w.grownBy w' r := ⟨h.os, h.tape, h.output, h.size, h.block⟩
def strsOk (L K : Nat) (cs : List Value) : Bool := cs.all fun | .string s => decide (L ≤ s.size ∧ s.size ≤ K) | _ => false
theorem strs_cell {w w1 : World} {cs : List Value} {T g : Nat} (hg : (w.alloc (.cells cs.toArray T)).grownBy w1 (some g)) (hgw : g < w.heap.size) (L K : Nat) (hall : strsOk L K cs = true) (m : Nat) (hm : m < cs.length) :
    ∃ s : ByteArray, (L ≤ s.size ∧ s.size ≤ K) ∧ w1.cell? ⟨w.heap.size, m, none⟩ = some (.string s) := by
  have h1 := List.all_eq_true.1 hall cs[m] (List.getElem_mem hm)
  split at h1
  · rename_i s hs
    refine ⟨s, by simpa using h1, hg.cell ?_ (by simp; omega)⟩
    rw [World.cell?_alloc_at _ _ _ _ rfl]
    simp [List.getElem?_eq_getElem hm, hs]
  · simp at h1
set_option maxHeartbeats 400000 in
theorem rdContent (B g : Nat) (w : World) (h : Rd B w g) :
    Calls Tryd.prog 27 #[.pointer (some ⟨g, 0, none⟩)] w fun e w' => ∃ s : ByteArray, 0 ≤ s.size ∧ s.size ≤ 6 ∧ e = .returned (.string s) ∧ Rd B w' g ∧ w.grownBy w' (some g) := by
  have hgw := h.2.1
  go_enter Tryd.func27, Tryd.ntmps27
  go_wp2_with fail
  refine (rdBelow B g _ (h.alloc _) 6 (by omega) (by omega)).mono ?_
  rintro e w1 ⟨m, hm, hm2, rfl, hr, hg⟩
  obtain ⟨m, rfl⟩ := Int.eq_ofNat_of_zero_le hm
  obtain ⟨s, hs, hc⟩ := strs_cell hg hgw 0 6 rfl m (by simp; omega)
  go_wp2_with fail
  go_ret
  exact ⟨s, hs.1, hs.2, rfl, hr, ((World.grownBy_alloc _ _ _).trans hg)⟩
open Go.RowKit Go.WideShapes
theorem grown_new {a b c : World} (h : a.grownBy b none) (k : b.grownBy c (some a.heap.size)) : a.grownBy c none := h.andThen k (by intro j hj; simp at hj; omega)
theorem isRow_grown {k : IntKind} {w w' : World} {a : Option Addr} {len cap : Nat} {zs : List Int} (h : Frame.IsRow k w a len cap zs) (hg : w.grownBy w' none) : Frame.IsRow k w' a len cap zs := by
  refine isRow_keep h fun x hx hz => hg.block _ ?_ (by simp)
  rcases h with ⟨rfl, _⟩ | ⟨y, rfl, h1, h2, h3, h4, h5⟩
  · simp at hx
  · obtain rfl : y = x := by simpa using hx
    have := lt_of_cell (h4 0 hz)
    rwa [add_block] at this
open Go.RowKit Go.WideShapes
open Go.RowKit Go.WideShapes
theorem Rd.setFar {B g : Nat} {w : World} (h : Rd B w g) {a : Addr} (h1 : B ≤ a.block) (h2 : a.block ≠ g) (u : Value) : Rd B (w.setCell a u) g :=
  h.keep (by simp [World.setCell]) (Below.heap_setCell w a u g (Ne.symm h2)) fun k hk => Below.heap_setCell w a u k (by omega)
end Go.Proofs.YtilgmjdpoaimiaaDoor
