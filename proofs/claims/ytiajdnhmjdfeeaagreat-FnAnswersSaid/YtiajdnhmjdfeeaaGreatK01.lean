/- What the walks of this seat stand on.; A block of three cells that the call itself made.; The contracts of the functions that escape. -/
import Derived.Test.YtiajdnhmjdfeeaaGreatK00
import Derived.Test.YtiajdnhmjdfeeaaGreatChecked
import Derived.WalkSpells
import Derived.WalkLawsBesides
import Derived.Outline
import Derived.Lib.Hide
import Derived.Laws.Entries
import Derived.Deep.QuietTactic
import Derived.BigQuiet
import Derived.Maps.AppendAt
import Derived.Deep.RegionWith
import Derived.IntWalk
import Derived.RegionTactic
namespace Go.Proofs.YtiajdnhmjdfeeaaGreat
open Go.RowKit
theorem infoU8 : (Tryz.prog.info? 5).map (fun i => (i.zero, i.size, i.bytes)) = some (some (.int .u8 0), 1, 1) := by kernel_rfl
end Go.Proofs.YtiajdnhmjdfeeaaGreat
namespace Go.Proofs.YtiajdnhmjdfeeaaGreat
open Go.RowKit
/-- Block g holds just these three cells. -/
def Box (w : World) (g : Nat) (x y z : Value) (T : TypeId) : Prop := w.heap[g]? = some (.cells #[x, y, z] T (0, 0))
theorem Box.lt {w : World} {g : Nat} {x y z : Value} {T : TypeId} (h : Box w g x y z T) : g < w.heap.size := by
  rcases Nat.lt_or_ge g w.heap.size with h1 | h1
  · exact h1
  · simp [Box, Array.getElem?_eq_none h1] at h
theorem Box.next {w w' : World} {g : Nat} {x y z : Value} {T : TypeId} (h : Box w g x y z T) (hb : Below w.heap.size w w') : Box w' g x y z T := (hb.block g h.lt).trans h
theorem Box.alloc {w : World} {g : Nat} {x y z : Value} {T : TypeId} (h : Box w g x y z T) (o : Obj) : Box (w.alloc o) g x y z T := (Below.heap_alloc w o g h.lt).trans h
theorem Box.new (w : World) (x y z : Value) (T : TypeId) : Box (w.alloc (.cells #[x, y, z] T)) w.heap.size x y z T := heap_alloc_new w _
theorem Box.cells {w : World} {g : Nat} {x y z : Value} {T : TypeId} (h : Box w g x y z T) : w.cell? ⟨g, 0, none⟩ = some x ∧ w.cell? ⟨g, 1, none⟩ = some y ∧ w.cell? ⟨g, 2, none⟩ = some z := by
  unfold Box at h
  refine ⟨?_, ?_, ?_⟩ <;> simp [World.cell?, h]
theorem Box.free {w : World} {g : Nat} {x y z : Value} {T : TypeId} (h : Box w g x y z T) : w.frozen? ⟨g, 0, none⟩ = false ∧ w.frozen? ⟨g, 1, none⟩ = false ∧ w.frozen? ⟨g, 2, none⟩ = false := by
  unfold Box at h
  refine ⟨?_, ?_, ?_⟩ <;> simp [World.frozen?, h]
theorem Box.drew {w : World} {g : Nat} {x y z : Value} {T : TypeId} (h : Box w g x y z T) : Box w.drew g x y z T := h
theorem Box.grown {w w' : World} {g : Nat} {x y z : Value} {T : TypeId} {row : Option Nat} (h : Box w g x y z T) (hg : w.grownBy w' row) (hne : some g ≠ row) : Box w' g x y z T := (hg.block g h.lt hne).trans h
theorem Box.far {w : World} {g : Nat} {x y z : Value} {T : TypeId} (h : Box w g x y z T) {a : Addr} (ha : g ≠ a.block) (u : Value) : Box (w.setCell a u) g x y z T := (Below.heap_setCell w a u g ha).trans h
theorem Box.set0 {w : World} {g : Nat} {x y z : Value} {T : TypeId} (h : Box w g x y z T) (u : Value) : Box (w.setCell ⟨g, 0, none⟩ u) g u y z T := by
  unfold Box at h ⊢; simp [World.setCell, Array.getElem?_modify, h]
theorem Box.set1 {w : World} {g : Nat} {x y z : Value} {T : TypeId} (h : Box w g x y z T) (u : Value) : Box (w.setCell ⟨g, 1, none⟩ u) g x u z T := by
  unfold Box at h ⊢; simp [World.setCell, Array.getElem?_modify, h]
theorem grown_setNew {w w' : World} {row : Option Nat} (h : w.grownBy w' row) {a : Addr} (ha : w.heap.size ≤ a.block) (u : Value) : w.grownBy (w'.setCell a u) row := by
  refine ⟨h.os, h.tape, h.output, by have := h.size; simpa [World.setCell] using this, fun k hk hne => ?_⟩
  rw [Below.heap_setCell _ _ _ _ (by omega)]
  exact h.block k hk hne
end Go.Proofs.YtiajdnhmjdfeeaaGreat
namespace Go.Proofs.YtiajdnhmjdfeeaaGreat
open Go.RowKit
set_option maxHeartbeats 400000 in
theorem specEscaped (s : ByteArray) (w : World) (hs : s.size ≤ 2097152) :
    Calls Tryz.prog 176 #[.string s] w fun e w' => e = .returned (.string (bs (esc s.data.toList))) ∧ w = w' := by
  go_enter Tryz.func176, Tryz.ntmps176
  go_wp2
  go_loop [3, 4] (fun o i => ∃ k : Nat, k ≤ s.size ∧ i = .int .i64 k ∧ ∃ b : ByteArray, o = .string b ∧ b.size ≤ 2 * k ∧ Hid (b.data.toList = esc (s.data.toList.take k))) (fun _ i => s.size - (intOf i).toNat)
  case atStart => exact ⟨0, Nat.zero_le _, rfl, _, rfl, Nat.le_refl _, Lib.hid rfl⟩
  case round =>
    obtain ⟨k, hk, rfl, b, rfl, hbs, hb⟩ := hrel
    by_cases hlt : k < s.size
    · have HS : Hid (esc (s.data.toList.take (k + 1)) = b.data.toList ++ escB s[k]) := Lib.hid (by rw [take_snoc s k hlt, esc_snoc, hb.out])
      go_wp2
      all_goals
        go_round
        case rel => exact ⟨k + 1, by omega, by go_num, _, rfl, by simp [lit_size]; omega, Lib.hid (by rw [HS.out, app_toList, escB_b]; simp [*, drop_cons s k hlt])⟩
        case measure => simp [intOf]; omega
    · go_wp2
      go_ret
      exact ⟨by rw [bs_eq hb.out, take_all _ _ (by omega)]; rfl, rfl⟩
open Go.RowKit Go.WideShapes
/-- Block g holds a reader over bytes that lie below block B. -/
def Rd (B : Nat) (w : World) (g : Nat) : Prop := B ≤ g ∧ g < w.heap.size ∧ ∃ (a : Option Addr) (len cap : Nat) (zs : List Int) (p : Nat), Frame.IsRow .u8 w a len cap zs ∧ (∀ x, a = some x → 0 < zs.length → x.block < B) ∧
  w.cell? ⟨g, 0, none⟩ = some (.slice a len cap) ∧ w.cell? ⟨g, 1, none⟩ = some (.int .i64 p) ∧ p ≤ len ∧ len ≤ 9223372036854775807 ∧ w.frozen? ⟨g, 1, none⟩ = false
theorem isRow_keep {k : IntKind} {w w' : World} {a : Option Addr} {len cap : Nat} {zs : List Int} (h : Frame.IsRow k w a len cap zs) (hc : ∀ x, a = some x → 0 < zs.length → w'.heap[x.block]? = w.heap[x.block]?) : Frame.IsRow k w' a len cap zs := by
  rcases h with h | ⟨x, rfl, h1, h2, h3, h4, h5⟩
  · exact .inl h
  · refine .inr ⟨x, rfl, h1, h2, h3, fun i hi => ?_, h5⟩
    rw [← h4 i hi]
    refine World.cell?_of_block ?_
    have : (x.add i).block = x.block := by unfold Addr.add; split <;> rfl
    rw [this]
    exact hc x rfl (by omega)
/-- What is left as it was where another block, or none of old, was written. -/
theorem Rd.keep {B g : Nat} {w w' : World} (h : Rd B w g) (hs : w.heap.size ≤ w'.heap.size) (hg : w'.heap[g]? = w.heap[g]?) (hb : ∀ k, k < B → w'.heap[k]? = w.heap[k]?) : Rd B w' g := by
  obtain ⟨hB, hgs, a, len, cap, zs, p, hrow, hlt, hc0, hc1, hp, hlen, hfz⟩ := h
  refine ⟨hB, by omega, a, len, cap, zs, p, isRow_keep hrow fun x hx hz => hb _ (hlt x hx hz), hlt, ?_, ?_, hp, hlen, ?_⟩
  · rw [World.cell?_of_block (w := w) hg]; exact hc0
  · rw [World.cell?_of_block (w := w) hg]; exact hc1
  · rw [World.frozen?_of_block (w := w) hg]; exact hfz
theorem Rd.grown {B g : Nat} {w w' : World} {row : Option Nat} (h : Rd B w g) (hg : w.grownBy w' row) (hr : ∀ k, row = some k → B ≤ k ∧ k ≠ g) : Rd B w' g :=
  have h2 := h.1
  have h3 := h.2.1
  h.keep hg.size (hg.block g h3 fun e => (hr g e.symm).2 rfl) fun k hk => hg.block k (by omega) fun e => by have := (hr k e.symm).1; omega
theorem Rd.alloc {B g : Nat} {w : World} (h : Rd B w g) (o : Obj) : Rd B (w.alloc o) g := h.grown (World.grownBy_alloc w o none) (by simp)
theorem Rd.drewN {B g : Nat} {w : World} (h : Rd B w g) (n : Nat) : Rd B (w.drewN n) g := h.keep (Nat.le_refl _) rfl fun _ _ => rfl
theorem Rd.drew {B g : Nat} {w : World} (h : Rd B w g) : Rd B w.drew g := h.keep (Nat.le_refl _) rfl fun _ _ => rfl
theorem grownBy_drewN {w w' : World} {row : Option Nat} (h : w.grownBy w' row) (n : Nat) : w.grownBy (w'.drewN n) row := ⟨h.os, h.tape, h.output, h.size, h.block⟩
theorem grownBy_drew {w w' : World} {row : Option Nat} (h : w.grownBy w' row) : w.grownBy w'.drew row := ⟨h.os, h.tape, h.output, h.size, h.block⟩
theorem grownBy_set {w w' : World} {g : Nat} (h : w.grownBy w' (some g)) {a : Addr} (ha : a.block = g) (u : Value) : w.grownBy (w'.setCell a u) (some g) := by
  refine ⟨h.os, h.tape, h.output, by have := h.size; simp [World.setCell]; omega, fun k hk hne => ?_⟩
  rw [Below.heap_setCell _ _ _ _ (by intro e; exact hne (by rw [e, ha]))]
  exact h.block k hk hne
theorem rd_step {B g : Nat} {w : World} {a : Option Addr} {len cap p : Nat} {zs : List Int} (hB : B ≤ g) (hg : g < w.heap.size) (hrow : Frame.IsRow .u8 w a len cap zs) (hlt : ∀ x, a = some x → 0 < zs.length → x.block < B)
    (hc0 : w.cell? ⟨g, 0, none⟩ = some (.slice a len cap)) (hc1 : w.cell? ⟨g, 1, none⟩ = some (.int .i64 p)) (hp : p < len) (hlen : len ≤ 9223372036854775807) (hfz : w.frozen? ⟨g, 1, none⟩ = false) (n m : Nat) :
    Rd B (((w.drewN n).setCell ⟨g, 1, none⟩ (.int .i64 ((p : Int) + 1))).drewN m) g ∧ w.grownBy (((w.drewN n).setCell ⟨g, 1, none⟩ (.int .i64 ((p : Int) + 1))).drewN m) (some g) := by
  refine ⟨?_, grownBy_drewN (grownBy_set (grownBy_drewN (World.grownBy.refl _ _) _) rfl _) _⟩
  have H : ∀ k, k ≠ g → ((w.drewN n).setCell ⟨g, 1, none⟩ (.int .i64 ((p : Int) + 1))).heap[k]? = w.heap[k]? := fun k hk => Below.heap_setCell (w.drewN n) _ _ k hk
  refine Rd.drewN (w := (w.drewN n).setCell ⟨g, 1, none⟩ (.int .i64 ((p : Int) + 1))) ?_ m
  refine ⟨hB, by simpa [World.setCell] using hg, a, len, cap, zs, p + 1, isRow_keep hrow fun x hx hz => H _ (by have := hlt x hx hz; omega), hlt, ?_, ?_, hp, hlen, ?_⟩
  · rw [World.cell?_setCell_other _ _ _ _ (by simp)]; exact hc0
  · exact World.cell?_setCell_same (w.drewN n) _ _ (u := .int .i64 p) hc1
  · rw [World.frozen?_setCell]; exact hfz
set_option maxHeartbeats 800000 in
theorem rdNext (B g : Nat) (w : World) (h : Rd B w g) :
    Calls Tryz.prog 150 #[.pointer (some ⟨g, 0, none⟩)] w fun e w' => ∃ n : Nat, n < 256 ∧ e = .returned (.int .i64 n) ∧ Rd B w' g ∧ w.grownBy w' (some g) := by
  obtain ⟨hB, hg, a, len, cap, zs, p, hrow, hlt, hc0, hc1, hp, hlen, hfz⟩ := h
  by_cases hpl : p = len
  · subst hpl
    go_enter Tryz.func150, Tryz.ntmps150
    go_wp2
    go_quiet (fail)
    go_wp2
    go_ret
    exact ⟨0, by omega, rfl, Rd.drewN ⟨hB, hg, a, p, cap, zs, p, hrow, hlt, hc0, hc1, hp, hlen, hfz⟩ _, grownBy_drewN (World.grownBy.refl _ _) _⟩
  · have hpl' : (p : Int) < (len : Int) := by omega
    have hnn : ¬ ((len : Int) ≤ (p : Int)) := by omega
    obtain ⟨rfl, rfl, _, _⟩ | ⟨x, rfl, hlc, hcm, hzl, hcell, hwf⟩ := hrow
    · omega
    obtain ⟨xb, xo, xs⟩ := x
    have hcp := hcell p (by omega)
    obtain rfl : xs = none := by simpa [Addr.add] using World.cell?_spot (hcell 0 (by omega))
    have hxb : xb < B := hlt _ rfl (by omega)
    rw [add_plain] at hcp
    have hcp' : w.cell? ⟨xb, xo + p, none⟩ = some (.int .u8 (zs.getD p 0)) := hcp
    have hne : ¬ xb = g := by omega
    clear hcp
    have hz1 : 0 ≤ zs[p]?.getD 0 ∧ zs[p]?.getD 0 ≤ 255 := by
      have := hwf (zs.getD p 0) (by rw [List.getD, List.getElem?_eq_getElem (by omega)]; exact List.getElem_mem _)
      have := bounds_u8 this
      simpa using this
    obtain ⟨hz1, hz2⟩ := hz1
    have HR := Lib.hid (rd_step hB hg (.inr ⟨_, rfl, hlc, hcm, hzl, hcell, hwf⟩) hlt hc0 hc1 (by omega) hlen hfz)
    have HC := Lib.hid hcell; clear hcell
    have HW := Lib.hid hwf; clear hwf
    have HL := Lib.hid hlt; clear hlt
    have HZ := Lib.hid hzl; clear hzl
    go_enter Tryz.func150, Tryz.ntmps150
    go_wp2
    go_quiet (fail)
    go_wp2
    go_quiet (fail)
    go_wp2
    go_ret
    obtain ⟨n, hn⟩ := Int.eq_ofNat_of_zero_le hz1
    exact ⟨n, by omega, by rw [← hn]; simp, HR.out _ _⟩
set_option maxHeartbeats 800000 in
theorem rdBelow (B g : Nat) (w : World) (h : Rd B w g) (n : Int) (h1 : 1 ≤ n) (h2 : n ≤ 65536) :
    Calls Tryz.prog 109 #[.pointer (some ⟨g, 0, none⟩), .int .i64 n] w fun e w' => ∃ m : Int, 0 ≤ m ∧ m < n ∧ e = .returned (.int .i64 m) ∧ Rd B w' g ∧ w.grownBy w' (some g) := by
  by_cases c1 : n ≤ 1
  · go_enter Tryz.func109, Tryz.ntmps109
    go_wp2_with fail
    go_ret
    exact ⟨0, by omega, by omega, rfl, h, World.grownBy.refl _ _⟩
  by_cases c2 : n ≤ 256
  · go_enter Tryz.func109, Tryz.ntmps109
    go_wp2_with fail
    refine (rdNext B g _ h).mono ?_
    rintro e w1 ⟨x, hx, rfl, hr, hg⟩
    go_wp2_with fail
    go_ret
    exact ⟨x % n, Int.emod_nonneg _ (by omega), Int.emod_lt_of_pos _ (by omega), rfl, hr, hg⟩
  · go_enter Tryz.func109, Tryz.ntmps109
    go_wp2_with fail
    refine (rdNext B g _ h).mono ?_
    rintro e w1 ⟨x, hx, rfl, hr, hg⟩
    go_wp2_with fail
    refine (rdNext B g _ hr).mono ?_
    rintro e w2 ⟨y, hy, rfl, hr2, hg2⟩
    go_wp2_with fail
    go_ret
    exact ⟨(x * 256 + y) % n, Int.emod_nonneg _ (by omega), Int.emod_lt_of_pos _ (by omega), rfl, hr2, hg.trans hg2⟩
theorem lt_of_cell {w : World} {a : Addr} {v : Value} (h : w.cell? a = some v) : a.block < w.heap.size := by
  rcases Nat.lt_or_ge a.block w.heap.size with h1 | h1
  · exact h1
  · simp [World.cell?, Array.getElem?_eq_none h1] at h
theorem add_block (a : Addr) (i : Nat) : (a.add i).block = a.block := by unfold Addr.add; split <;> rfl
set_option maxHeartbeats 400000 in
theorem rdOpen (w : World) (a : Option Addr) (len cap : Nat) (zs : List Int) (hrow : Frame.IsRow .u8 w a len cap zs) :
    Calls Tryz.prog 62 #[.slice a len cap] w fun e w' => e = .returned (.pointer (some ⟨w.heap.size, 0, none⟩)) ∧ Rd w.heap.size w' w.heap.size ∧ w.grownBy w' none := by
  go_enter Tryz.func62, Tryz.ntmps62
  go_wp2
  go_ret
  have hlt : ∀ x, a = some x → 0 < zs.length → x.block < w.heap.size := by
    intro x hx hz
    rcases hrow with ⟨rfl, _⟩ | ⟨y, rfl, h1, h2, h3, h4, h5⟩
    · simp at hx
    · obtain rfl : y = x := by simpa using hx
      have := lt_of_cell (h4 0 hz)
      rwa [add_block] at this
  have hlen : len ≤ 9223372036854775807 := by
    rcases hrow with ⟨_, rfl, _⟩ | ⟨y, _, h1, h2, _⟩
    · omega
    · unfold maxLen at h2; omega
  refine ⟨rfl, ⟨Nat.le_refl _, by simp, a, len, cap, zs, 0, isRow_keep hrow fun x hx hz => Below.heap_alloc _ _ _ (hlt x hx hz), hlt, ?_, ?_, Nat.zero_le _, hlen, ?_⟩, World.grownBy_alloc _ _ _⟩
  · rw [World.cell?_alloc_at _ _ _ _ rfl]; rfl
  · rw [World.cell?_alloc_at _ _ _ _ rfl]; rfl
  · exact World.frozen?_alloc_at _ _ _ _ rfl
theorem rdOnce (B g : Nat) (w : World) (h : Rd B w g) (n : Int) (h1 : 1 ≤ n) (h2 : n ≤ 65536) :
    Calls Tryz.prog 112 #[.pointer (some ⟨g, 0, none⟩), .int .i64 n] w fun e w' => ∃ b : Bool, e = .returned (.bool b) ∧ Rd B w' g ∧ w.grownBy w' (some g) := by
  go_enter Tryz.func112, Tryz.ntmps112
  go_wp2_with fail
  refine (rdBelow B g _ h n h1 h2).mono ?_
  rintro e w1 ⟨x, hx, hx2, rfl, hr, hg⟩
  go_wp2_with fail
  go_ret
  exact ⟨_, rfl, hr, hg⟩
open Go.RowKit Go.WideShapes
def strsOk (L K : Nat) (cs : List Value) : Bool := cs.all fun | .string s => decide (L ≤ s.size ∧ s.size ≤ K) | _ => false
theorem strs_cell {w w1 : World} {cs : List Value} {T g : Nat} (hg : (w.alloc (.cells cs.toArray T)).grownBy w1 (some g)) (hgw : g < w.heap.size) (L K : Nat) (hall : strsOk L K cs = true) (m : Nat) (hm : m < cs.length) :
    ∃ s : ByteArray, (L ≤ s.size ∧ s.size ≤ K) ∧ w1.cell? ⟨w.heap.size, m, none⟩ = some (.string s) := by
  have h1 := List.all_eq_true.1 hall cs[m] (List.getElem_mem hm)
  split at h1
  · rename_i s hs
    refine ⟨s, by simpa using h1, hg.cell ?_ (by simp; omega)⟩
    rw [World.cell?_alloc_at _ _ _ _ rfl]
    simp [List.getElem?_eq_getElem hm, hs]
  · simp at h1
set_option maxHeartbeats 400000 in
theorem rdContent (B g : Nat) (w : World) (h : Rd B w g) :
    Calls Tryz.prog 177 #[.pointer (some ⟨g, 0, none⟩)] w fun e w' => ∃ s : ByteArray, 0 ≤ s.size ∧ s.size ≤ 6 ∧ e = .returned (.string s) ∧ Rd B w' g ∧ w.grownBy w' (some g) := by
  have hgw := h.2.1
  go_enter Tryz.func177, Tryz.ntmps177
  go_wp2_with fail
  refine (rdBelow B g _ (h.alloc _) 6 (by omega) (by omega)).mono ?_
  rintro e w1 ⟨m, hm, hm2, rfl, hr, hg⟩
  obtain ⟨m, rfl⟩ := Int.eq_ofNat_of_zero_le hm
  obtain ⟨s, hs, hc⟩ := strs_cell hg hgw 0 6 rfl m (by simp; omega)
  go_wp2_with fail
  go_ret
  exact ⟨s, hs.1, hs.2, rfl, hr, ((World.grownBy_alloc _ _ _).trans hg)⟩
set_option maxHeartbeats 400000 in
theorem rdName (B g : Nat) (w : World) (h : Rd B w g) :
    Calls Tryz.prog 153 #[.pointer (some ⟨g, 0, none⟩)] w fun e w' => ∃ s : ByteArray, 1 ≤ s.size ∧ s.size ≤ 6 ∧ e = .returned (.string s) ∧ Rd B w' g ∧ w.grownBy w' (some g) := by
  have hgw := h.2.1
  go_enter Tryz.func153, Tryz.ntmps153
  go_wp2_with fail
  refine (rdBelow B g _ (h.alloc _) 5 (by omega) (by omega)).mono ?_
  rintro e w1 ⟨m, hm, hm2, rfl, hr, hg⟩
  obtain ⟨m, rfl⟩ := Int.eq_ofNat_of_zero_le hm
  obtain ⟨s, hs, hc⟩ := strs_cell hg hgw 1 6 rfl m (by simp; omega)
  go_wp2_with fail
  go_ret
  exact ⟨s, hs.1, hs.2, rfl, hr, ((World.grownBy_alloc _ _ _).trans hg)⟩
set_option maxHeartbeats 400000 in
theorem rdPred (B g : Nat) (w : World) (h : Rd B w g) :
    Calls Tryz.prog 152 #[.pointer (some ⟨g, 0, none⟩)] w fun e w' => ∃ s : ByteArray, 1 ≤ s.size ∧ s.size ≤ 6 ∧ e = .returned (.string s) ∧ Rd B w' g ∧ w.grownBy w' (some g) := by
  have hgw := h.2.1
  go_enter Tryz.func152, Tryz.ntmps152
  go_wp2_with fail
  refine (rdBelow B g _ (h.alloc _) 7 (by omega) (by omega)).mono ?_
  rintro e w1 ⟨m, hm, hm2, rfl, hr, hg⟩
  obtain ⟨m, rfl⟩ := Int.eq_ofNat_of_zero_le hm
  obtain ⟨s, hs, hc⟩ := strs_cell hg hgw 1 6 rfl m (by simp; omega)
  go_wp2_with fail
  go_ret
  exact ⟨s, hs.1, hs.2, rfl, hr, ((World.grownBy_alloc _ _ _).trans hg)⟩
set_option maxHeartbeats 400000 in
theorem rdThing (B g : Nat) (w : World) (h : Rd B w g) :
    Calls Tryz.prog 151 #[.pointer (some ⟨g, 0, none⟩)] w fun e w' => ∃ s : ByteArray, s.size ≤ 20 ∧ 1 ≤ s.size ∧ e = .returned (.string s) ∧ Rd B w' g ∧ w.grownBy w' (some g) := by
  have hgw := h.2.1
  go_enter Tryz.func151, Tryz.ntmps151
  go_wp2_with fail
  refine (rdBelow B g _ h 6 (by omega) (by omega)).mono ?_
  rintro e w1 ⟨m, hm, hm2, rfl, hr, hg⟩
  have hg1 := hr.2.1
  by_cases h0 : m = 0
  · subst h0
    go_wp2_with fail
    refine (rdBelow B g _ (hr.alloc _) 3 (by omega) (by omega)).mono ?_
    rintro e w2 ⟨m, hm, hm2, rfl, hr2, hg2⟩
    obtain ⟨m, rfl⟩ := Int.eq_ofNat_of_zero_le hm
    obtain ⟨s, hs, hc⟩ := strs_cell hg2 hg1 0 1 rfl m (by simp; omega)
    go_wp2_with fail
    go_ret
    exact ⟨_, by (simp [lit_size]; try omega), by (simp [lit_size]; try omega), rfl, hr2, (hg.trans (World.grownBy_alloc _ _ _)).trans hg2⟩
  by_cases h1 : m = 1
  · subst h1
    go_wp2_with fail
    refine (rdContent B g _ hr).mono ?_
    rintro e w2 ⟨s, hs1, hs, rfl, hr2, hg2⟩
    go_wp2_with fail
    refine (specEscaped s _ (by omega)).mono ?_
    rintro e w3 ⟨rfl, rfl⟩
    have hl := (esc_len s.data.toList).2
    rw [size_len] at hl
    have hl2 : (bs (esc s.data.toList)).size ≤ 12 := by rw [bs_size]; omega
    clear hl
    go_wp2_with fail
    go_ret
    exact ⟨_, by (simp [lit_size]; try omega), by (simp [lit_size]; try omega), rfl, hr2, hg.trans hg2⟩
  · have e0 : (m == 0) = false := by simpa using h0
    have e1 : (m == 1) = false := by simpa using h1
    go_wp2_with fail
    refine (rdName B g _ hr).mono ?_
    rintro e w2 ⟨s, hs1, hs, rfl, hr2, hg2⟩
    go_wp2_with fail
    go_ret
    exact ⟨s, by omega, hs1, rfl, hr2, hg.trans hg2⟩
open Go.RowKit Go.WideShapes
theorem isRow_grown {k : IntKind} {w w' : World} {a : Option Addr} {len cap : Nat} {zs : List Int} (h : Frame.IsRow k w a len cap zs) (hg : w.grownBy w' none) : Frame.IsRow k w' a len cap zs := by
  refine isRow_keep h fun x hx hz => hg.block _ ?_ (by simp)
  rcases h with ⟨rfl, _⟩ | ⟨y, rfl, h1, h2, h3, h4, h5⟩
  · simp at hx
  · obtain rfl : y = x := by simpa using hx
    have := lt_of_cell (h4 0 hz)
    rwa [add_block] at this
open Go.RowKit Go.WideShapes
open Go.RowKit Go.WideShapes
theorem Rd.setFar {B g : Nat} {w : World} (h : Rd B w g) {a : Addr} (h1 : B ≤ a.block) (h2 : a.block ≠ g) (u : Value) : Rd B (w.setCell a u) g :=
  h.keep (by simp [World.setCell]) (Below.heap_setCell w a u g (Ne.symm h2)) fun k hk => Below.heap_setCell w a u k (by omega)
set_option maxRecDepth 100000 in
set_option maxHeartbeats 1600000 in
theorem rdTriple (B g : Nat) (w : World) (h : Rd B w g) :
    Calls Tryz.prog 111 #[.pointer (some ⟨g, 0, none⟩)] w fun e w' => ∃ s p o : ByteArray, (1 ≤ s.size ∧ s.size ≤ 20) ∧ p.size ≤ 20 ∧ o.size ≤ 20 ∧ e = .returned (.agg #[.string s, .string p, .string o]) ∧ Rd B w' g ∧ w.grownBy w' (some g) := by
  have hgw := h.2.1
  have hB := h.1
  have R0 := Box.new w (.string ⟨#[]⟩) (.string ⟨#[]⟩) (.string ⟨#[]⟩) 65
  have G0 := World.grownBy_alloc w (.cells #[.string ⟨#[]⟩, .string ⟨#[]⟩, .string ⟨#[]⟩] 65) (some g)
  go_enter Tryz.func111, Tryz.ntmps111
  go_wp2_with fail
  refine (rdThing B g _ (h.alloc _)).mono ?_
  rintro e w1 ⟨s, hs2, hs1, rfl, hr1, hg1⟩
  have R1 := R0.grown hg1 (by simp; omega)
  have G1 := G0.trans hg1
  clear hg1 R0 G0
  go_wp2_with fail
  refine (rdPred B g _ hr1).mono ?_
  rintro e w2 ⟨p, _, hp, rfl, hr2, hg2⟩
  have R2 := R1.grown hg2 (by simp; omega)
  have G2 := G1.trans hg2
  clear hg2 R1 G1 hr1
  go_wp2_with fail
  refine (rdThing B g _ hr2).mono ?_
  rintro e w3 ⟨o, ho, _, rfl, hr3, hg3⟩
  have R3 := R2.grown hg3 (by simp; omega)
  have G3 := G2.trans hg3
  have l3 := R3.lt
  clear hg3 R2 G2 hr2
  have T3 := Box.new w3 (.string s) (.string p) (.string o) 65
  have i0 : (0 : Int) < s.size := by omega
  cases hq : ((s[0].toNat : Int) == 34)
  · go_wp2_with fail
    refine (rdOnce B g _ (hr3.alloc _) 60 (by omega) (by omega)).mono ?_
    rintro e w4 ⟨b, rfl, hr4, hg4⟩
    have R4 := (R3.alloc _).grown hg4 (by simp; omega)
    have T4 := T3.grown hg4 (by have := hr3.2.1; simp; omega)
    have G4 := (G3.trans (World.grownBy_alloc w3 _ _)).trans hg4
    clear hg4 R3 T3 G3 hr3 hq
    obtain ⟨c0, c1, c2⟩ := T4.cells
    obtain ⟨f0, f1, f2⟩ := T4.free
    obtain ⟨d0, d1, d2⟩ := R4.cells
    obtain ⟨k0, k1, k2⟩ := R4.free
    have hne : ¬ w.heap.size = w3.heap.size := by omega
    have hne2 : ¬ w3.heap.size = w.heap.size := by omega
    clear T4 R4
    cases b
    · go_wp2_with fail
      refine bodyPost_ret (v := .agg #[.string s, .string p, .string o]) (by simp [results, Tryz.results111, go_sem, *]) rfl ⟨s, p, o, ⟨hs1, hs2⟩, by omega, ho, rfl, ?_, ?_⟩
      · exact ((hr4.setFar (by simp; omega) (by simp; omega) _).setFar (by simp; omega) (by simp; omega) _).setFar (by simp; omega) (by simp; omega) _
      · exact grown_setNew (grown_setNew (grown_setNew G4 (by simp) _) (by simp) _) (by simp) _
    · go_wp2_with fail
      refine bodyPost_ret (v := .agg #[.string s, .string ⟨#[95, 58, 98]⟩, .string o]) (by simp [results, Tryz.results111, go_sem, *]) rfl ⟨s, _, o, ⟨hs1, hs2⟩, by simp [lit_size], ho, rfl, ?_, ?_⟩
      · exact (((hr4.setFar (by simp; omega) (by simp; omega) _).setFar (by simp; omega) (by simp; omega) _).setFar (by simp; omega) (by simp; omega) _).setFar (by simp; omega) (by simp; omega) _
      · exact grown_setNew (grown_setNew (grown_setNew (grown_setNew G4 (by simp; omega) _) (by simp) _) (by simp) _) (by simp) _
  · go_wp2_with fail
    refine (rdName B g _ (hr3.alloc _)).mono ?_
    rintro e w5 ⟨s', hs1', hs2', rfl, hr5, hg5⟩
    have R5 := (R3.alloc _).grown hg5 (by simp; omega)
    have T5 := T3.grown hg5 (by have := hr3.2.1; simp; omega)
    have G5 := (G3.trans (World.grownBy_alloc w3 _ _)).trans hg5
    have hg3 := hr3.2.1
    clear hg5 R3 T3 G3 hr3 hq i0
    obtain ⟨c0, c1, c2⟩ := T5.cells
    obtain ⟨f0, f1, f2⟩ := T5.free
    have hne : ¬ w.heap.size = w3.heap.size := by omega
    have hne2 : ¬ w3.heap.size = w.heap.size := by omega
    have T6 := T5.set0 (.string s')
    have R6 := R5.far (a := ⟨w3.heap.size, 0, none⟩) (by simp; omega) (.string s')
    have hr6 := hr5.setFar (a := ⟨w3.heap.size, 0, none⟩) (by simp; omega) (by simp; omega) (.string s')
    have G6 := grown_setNew G5 (a := ⟨w3.heap.size, 0, none⟩) (by simp; omega) (.string s')
    clear T5 R5 G5 hr5
    go_wp2_with fail
    refine (rdOnce B g _ hr6 60 (by omega) (by omega)).mono ?_
    rintro e w4 ⟨b, rfl, hr4, hg4⟩
    have R4 := R6.grown hg4 (by simp; omega)
    have T4 := T6.grown hg4 (by simp; omega)
    have G4 := G6.trans hg4
    clear hg4 R6 T6 G6 hr6 c0 c1 c2 f0 f1 f2
    obtain ⟨c0, c1, c2⟩ := T4.cells
    obtain ⟨f0, f1, f2⟩ := T4.free
    obtain ⟨d0, d1, d2⟩ := R4.cells
    obtain ⟨k0, k1, k2⟩ := R4.free
    clear T4 R4
    cases b
    · go_wp2_with fail
      refine bodyPost_ret (v := .agg #[.string s', .string p, .string o]) (by simp [results, Tryz.results111, go_sem, *]) rfl ⟨s', p, o, ⟨hs1', by omega⟩, by omega, ho, rfl, ?_, ?_⟩
      · exact ((hr4.setFar (by simp; omega) (by simp; omega) _).setFar (by simp; omega) (by simp; omega) _).setFar (by simp; omega) (by simp; omega) _
      · exact grown_setNew (grown_setNew (grown_setNew G4 (by simp) _) (by simp) _) (by simp) _
    · go_wp2_with fail
      refine bodyPost_ret (v := .agg #[.string s', .string ⟨#[95, 58, 98]⟩, .string o]) (by simp [results, Tryz.results111, go_sem, *]) rfl ⟨s', _, o, ⟨hs1', by omega⟩, by simp [lit_size], ho, rfl, ?_, ?_⟩
      · exact (((hr4.setFar (by simp; omega) (by simp; omega) _).setFar (by simp; omega) (by simp; omega) _).setFar (by simp; omega) (by simp; omega) _).setFar (by simp; omega) (by simp; omega) _
      · exact grown_setNew (grown_setNew (grown_setNew (grown_setNew G4 (by simp; omega) _) (by simp) _) (by simp) _) (by simp) _
end Go.Proofs.YtiajdnhmjdfeeaaGreat
