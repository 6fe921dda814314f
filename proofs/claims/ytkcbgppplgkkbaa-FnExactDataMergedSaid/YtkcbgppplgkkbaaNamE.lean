/- The exact laws' own comparison of two slices of named graphs. -/
import Derived.Test.YtkcbgppplgkkbaaNam
import Derived.Deep.RegionHeld3
namespace Go.Proofs.Ytkcbgppplgkkbaa
open Go.RowKit Go.WideShapes
set_option maxRecDepth 100000 in
set_option maxHeartbeats 1600000 in
theorem eqNam (s : ByteArray) (a b : Option Addr) (n c d : Nat) (ts : List Tri3) (w : World) (ha : IsTris w a n c ts) (hb : IsTris w b n d ts) (hn : n ≤ 1048576) :
    Calls Try.prog 25 #[.agg #[.string s, .slice a n c], .agg #[.string s, .slice b n d]] w fun e w' => e = .returned (.bool true) ∧ Below w.heap.size w w' := by
  obtain ⟨W1, hW1⟩ : ∃ W, w.alloc (.cells #[.string s, .slice a n c] 43) = W := ⟨_, rfl⟩
  obtain ⟨W2, hW2⟩ : ∃ W, W1.alloc (.cells #[.string s, .slice b n d] 43) = W := ⟨_, rfl⟩
  have z1 : W1.heap.size = w.heap.size + 1 := by rw [← hW1]; simp
  have B0 : Below w.heap.size w W2 := by
    rw [← hW2, ← hW1]; exact ((Below.refl w.heap.size w).alloc (Nat.le_refl _) _).alloc (by simp) _
  have X0 : NamK.Box2 W2 w.heap.size (.string s) (.slice a n c) 43 := by
    rw [← hW2, ← hW1]; exact (NamK.Box2.new w _ _ _).alloc _
  have Y0 : NamK.Box2 W2 (w.heap.size + 1) (.string s) (.slice b n d) 43 := by
    rw [← hW2, ← z1]; exact NamK.Box2.new W1 _ _ _
  have HH := Lib.hid (And.intro ha hb)
  have HW := Lib.hid (And.intro hW1 hW2)
  have EN : (s.toList != s.toList) = false := by simp
  have EQ : (s.toList == s.toList) = true := by simp
  obtain ⟨x0, x1⟩ := X0.cells
  obtain ⟨y0, y1⟩ := Y0.cells
  clear ha hb z1 hW1 hW2
  go_enter Try.func25, Try.ntmps25
  go_wp2_with fail
  rw [HW.out.1, HW.out.2]
  refine (eqTriS a b n c n d ts _ (HH.out.1.next B0) (HH.out.2.next B0) hn).mono ?_
  rintro e w1 ⟨rfl, hb⟩
  have B1 := B0.trans (hb.mono B0.size)
  clear hb B0 X0 Y0 x0 x1 y0 y1
  go_wp2_with fail
  go_ret
  exact ⟨rfl, B1⟩
set_option maxRecDepth 100000 in
set_option maxHeartbeats 1600000 in
theorem eqNams (a b : Option Addr) (la ca lb cb : Nat) (rs : List NamV) (w : World) (ha : IsNams w a la ca rs) (hb : IsNams w b lb cb rs) (hs : la + totN rs ≤ 1048576) :
    Calls Try.prog 10 #[.slice a la ca, .slice b lb cb] w fun e w' => e = .returned (.bool true) ∧ Below w.heap.size w w' := by
  have hlb : lb = la := by rw [← ha.len, ← hb.len]
  subst hlb
  have HA := Lib.hid ha
  have HB := Lib.hid hb
  have HTOT : Hid (∀ r ∈ rs, r.2.length ≤ 1048576) := Lib.hid (fun r hr => by have := totN_mem hr; omega)
  have HT := Lib.hid ha.len
  clear ha hb
  go_enter Try.func10, Try.ntmps10
  go_wp2_with fail
  go_loopw [5] (fun i wr => ∃ k : Nat, k ≤ lb ∧ i = .int .i64 k ∧ Below w.heap.size w wr) (fun i _ => lb - (intOf i).toNat)
  case atStart => exact ⟨0, Nat.zero_le _, rfl, Below.refl _ _⟩
  case round =>
    obtain ⟨k, hk, rfl, hnx⟩ := hrel
    have hk6 : (0 : Int) ≤ (k : Int) := by omega
    by_cases hlt : k < lb
    · obtain ⟨x, off, rfl, hx, _, _, hts, hc⟩ := (HA.out.next hnx).cells (by omega)
      obtain ⟨y, off', rfl, hy, _, _, _, hd⟩ := (HB.out.next hnx).cells (by omega)
      have ht : rs[k]? = some rs[k] := List.getElem?_eq_getElem (by omega)
      obtain ⟨a1, n1, k1, c0, c1, hz1, m0⟩ := hc k _ ht
      obtain ⟨a2, n2, k2, d0, d1, hz2, m1⟩ := hd k _ ht
      clear m0 m1
      have hzt := HTOT.out _ (List.getElem_mem (by omega : k < rs.length))
      generalize rs[k] = r at hz1 hz2 hzt c0 c1 d0 d1
      have hn : n1 ≤ 1048576 := by have := hz1.len; omega
      obtain rfl : n2 = n1 := by rw [← hz1.len, ← hz2.len]
      have E := Lib.hid (fun (W : World) (h : Below wr.heap.size wr W) => eqNam r.1 a1 a2 n2 k1 k2 r.2 W (hz1.next h) (hz2.next h) hn)
      have hlt2 : (k : Int) < (lb : Int) := by omega
      have l1 : x < wr.heap.size := hx
      have l2 : y < wr.heap.size := hy
      clear ht hts hc hd hz1 hz2
      go_wp2_with fail
      go_region_held3 (fun w' => w'.cell? ⟨x, off + k * 2, none⟩ = some (.string r.1) ∧ w'.cell? ⟨x, off + k * 2 + 1, none⟩ = some (.slice a1 n2 k1) ∧ w'.cell? ⟨y, off' + k * 2, none⟩ = some (.string r.1) ∧ w'.cell? ⟨y, off' + k * 2 + 1, none⟩ = some (.slice a2 n2 k2))
        (first | go_keep | (go_split_ands; refine ⟨?_, ?_, ?_, ?_⟩ <;> (rw [ha4.cell (by first | (simp; done) | exact World.block_lt_of_cell? _ _ (by assumption))]; assumption)))
        (first | (go_at_call 25; refine (E.out _ (Below.drew (Below.refl _ _))).mono ?_; rintro e wa ⟨rfl, ha4⟩))
      have B : Below w.heap.size w wa := (Below.drew hnx).trans (ha4.mono hnx.size)
      clear ha4 hnx c0 c1 d0 d1 E
      go_wp2_with fail
      go_roundw
      case rel => exact ⟨k + 1, by omega, by go_num, B⟩
      case measure => simp [intOf]; omega
    · go_wp2_with fail
      go_ret
      exact ⟨rfl, hnx⟩
end Go.Proofs.Ytkcbgppplgkkbaa
