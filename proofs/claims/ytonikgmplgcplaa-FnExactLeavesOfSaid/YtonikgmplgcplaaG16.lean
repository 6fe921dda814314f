/- The exact laws' own comparison of numbers and of steps. -/
import Derived.Test.YtonikgmplgcplaaG15
import Derived.Deep.RegionHeld3
import Derived.Deep.QuietTactic
import Derived.BigQuiet
import Derived.Test.YtonikgmplgcplaaG13
namespace Go.Proofs.Ytonikgmplgcplaa
open Go.RowKit Go.WideShapes
set_option maxRecDepth 100000 in
set_option maxHeartbeats 1600000 in
theorem eqInts (a b : Option Addr) (la ca lb cb : Nat) (zs : List Int) (w : World) (ha : IsInts w a la ca zs) (hb : IsInts w b lb cb zs) (hs : la ≤ 1048576) :
    Calls Try.prog 29 #[.slice a la ca, .slice b lb cb] w fun e w' => e = .returned (.bool true) ∧ Below w.heap.size w w' := by
  have hlb : lb = la := by rw [← ha.len, ← hb.len]
  subst hlb
  have HA := Lib.hid ha
  have HB := Lib.hid hb
  clear ha hb
  go_enter Try.func29, Try.ntmps29
  go_wp2_with fail
  go_loopw [5] (fun i wr => ∃ k : Nat, k ≤ lb ∧ i = .int .i64 k ∧ Below w.heap.size w wr) (fun i _ => lb - (intOf i).toNat)
  case atStart => exact ⟨0, Nat.zero_le _, rfl, Below.refl _ _⟩
  case round =>
    obtain ⟨k, hk, rfl, hnx⟩ := hrel
    have hk6 : (0 : Int) ≤ (k : Int) := by omega
    by_cases hlt : k < lb
    · obtain ⟨x, off, rfl, hx, _, _, hts, hc⟩ := HA.out.cells (by omega)
      obtain ⟨y, off', rfl, hy, _, _, _, hd⟩ := HB.out.cells (by omega)
      have ht : zs[k]? = some zs[k] := List.getElem?_eq_getElem (by omega)
      have c0 := hc k _ ht
      have d0 := hd k _ ht
      rw [← hnx.cell (p := ⟨x, _, none⟩) hx] at c0
      rw [← hnx.cell (p := ⟨y, _, none⟩) hy] at d0
      generalize zs[k] = z at c0 d0
      have hlt2 : (k : Int) < (lb : Int) := by omega
      clear ht hts hc hd
      go_wp2_with fail
      go_quiet (fail)
      go_wp2_with fail
      go_roundw
      case rel => exact ⟨k + 1, by omega, by go_num, ⟨hnx.os, hnx.tape, hnx.output, hnx.size, hnx.block⟩⟩
      case measure => simp [intOf]; omega
    · go_wp2_with fail
      go_ret
      exact ⟨rfl, hnx⟩
set_option maxRecDepth 100000 in
set_option maxHeartbeats 1600000 in
theorem eqStep (s p o : ByteArray) (r : Int) (a b : Option Addr) (la ca lb cb : Nat) (zs : List Int) (w : World) (ha : IsInts w a la ca zs) (hb : IsInts w b lb cb zs) (hs : la ≤ 1048576) :
    Calls Try.prog 18 #[.agg #[.string s, .string p, .string o, .int .i64 r, .slice a la ca], .agg #[.string s, .string p, .string o, .int .i64 r, .slice b lb cb]] w fun e w' => e = .returned (.bool true) ∧ Below w.heap.size w w' := by
  obtain ⟨W, hW⟩ : ∃ W, (w.alloc (.cells #[.string s, .string p, .string o, .int .i64 r, .slice a la ca] 41)).alloc (.cells #[.string s, .string p, .string o, .int .i64 r, .slice b lb cb] 41) = W := ⟨_, rfl⟩
  have X := (Box5.new w (.string s) (.string p) (.string o) (.int .i64 r) (.slice a la ca) 41).alloc (.cells #[.string s, .string p, .string o, .int .i64 r, .slice b lb cb] 41)
  have Y := Box5.new (w.alloc (.cells #[.string s, .string p, .string o, .int .i64 r, .slice a la ca] 41)) (.string s) (.string p) (.string o) (.int .i64 r) (.slice b lb cb) 41
  have B0 := ((Below.refl w.heap.size w).alloc (Nat.le_refl _) (.cells #[.string s, .string p, .string o, .int .i64 r, .slice a la ca] 41)).alloc (by simp) (.cells #[.string s, .string p, .string o, .int .i64 r, .slice b lb cb] 41)
  rw [World.size_alloc] at Y
  rw [hW] at X Y B0
  have HA := Lib.hid ha
  have HB := Lib.hid hb
  clear ha hb
  obtain ⟨c0, c1, c2, c3, c4⟩ := X.cells
  obtain ⟨d0, d1, d2, d3, d4⟩ := Y.cells
  go_enter Try.func18, Try.ntmps18
  go_wp2_with fail
  clear hW
  refine (eqTri s p o _).mono ?_
  rintro e w1 ⟨rfl, hb⟩
  have B1 := B0.trans (hb.mono B0.size)
  have X1 := X.next hb
  have Y1 := Y.next hb
  clear hb X Y B0 c0 c1 c2 c3 c4 d0 d1 d2 d3 d4
  obtain ⟨c0, c1, c2, c3, c4⟩ := X1.cells
  obtain ⟨d0, d1, d2, d3, d4⟩ := Y1.cells
  go_wp2_with fail
  refine (eqInts a b la ca lb cb zs w1 (HA.out.next B1) (HB.out.next B1) hs).mono ?_
  rintro e w2 ⟨rfl, hb⟩
  have B2 := B1.trans (hb.mono B1.size)
  clear hb B1 X1 Y1 c0 c1 c2 c3 c4 d0 d1 d2 d3 d4
  go_wp2_with fail
  go_ret
  exact ⟨rfl, B2⟩
set_option maxRecDepth 100000 in
set_option maxHeartbeats 1600000 in
theorem eqSteps (a b : Option Addr) (la ca lb cb : Nat) (ts : List StepV) (w : World) (ha : IsSteps w a la ca ts) (hb : IsSteps w b lb cb ts) (hs : la + tot ts ≤ 1048576) :
    Calls Try.prog 9 #[.slice a la ca, .slice b lb cb] w fun e w' => e = .returned (.bool true) ∧ Below w.heap.size w w' := by
  have hlb : lb = la := by rw [← ha.len, ← hb.len]
  subst hlb
  have HA := Lib.hid ha
  have HB := Lib.hid hb
  have HT := Lib.hid ha.len
  have HTOT : Hid (∀ t ∈ ts, t.2.2.length ≤ 1048576) := Lib.hid (fun t ht => by have := tot_mem ht; omega)
  clear ha hb
  go_enter Try.func9, Try.ntmps9
  go_wp2_with fail
  go_loopw [5] (fun i wr => ∃ k : Nat, k ≤ lb ∧ i = .int .i64 k ∧ Below w.heap.size w wr) (fun i _ => lb - (intOf i).toNat)
  case atStart => exact ⟨0, Nat.zero_le _, rfl, Below.refl _ _⟩
  case round =>
    obtain ⟨k, hk, rfl, hnx⟩ := hrel
    have hk6 : (0 : Int) ≤ (k : Int) := by omega
    by_cases hlt : k < lb
    · obtain ⟨x, off, rfl, hx, _, _, hts, hc⟩ := (HA.out.next hnx).cells (by omega)
      obtain ⟨y, off', rfl, hy, _, _, _, hd⟩ := (HB.out.next hnx).cells (by omega)
      have ht : ts[k]? = some ts[k] := List.getElem?_eq_getElem (by omega)
      obtain ⟨c0, c1, c2, c3, ⟨a1, n1, k1, c4, hz1⟩, m0, m1, m2⟩ := hc k _ ht
      obtain ⟨d0, d1, d2, d3, ⟨a2, n2, k2, d4, hz2⟩, m3, m4, m5⟩ := hd k _ ht
      have hzt := HTOT.out _ (List.getElem_mem (by omega : k < ts.length))
      clear m0 m1 m2 m3 m4 m5
      generalize ts[k] = t at c0 c1 c2 c3 hz1 d0 d1 d2 d3 hz2 hzt
      obtain ⟨⟨s, p, o⟩, r, zs⟩ := t
      simp only at c0 c1 c2 c3 hz1 d0 d1 d2 d3 hz2 hzt
      have hn : n1 ≤ 1048576 := by have := hz1.len; omega
      have E := Lib.hid (fun (W : World) (h : Below wr.heap.size wr W) => eqStep s p o r a1 a2 n1 k1 n2 k2 zs W (hz1.next h) (hz2.next h) hn)
      have hlt2 : (k : Int) < (lb : Int) := by omega
      have l1 : x < wr.heap.size := hx
      have l2 : y < wr.heap.size := hy
      clear ht hts hc hd hz1 hz2
      go_wp2_with fail
      go_region_held3 (fun w' => w'.cell? ⟨x, off + k * 5, none⟩ = some (.string s) ∧ w'.cell? ⟨x, off + k * 5 + 1, none⟩ = some (.string p) ∧ w'.cell? ⟨x, off + k * 5 + 2, none⟩ = some (.string o) ∧ w'.cell? ⟨x, off + k * 5 + 3, none⟩ = some (.int .i64 r) ∧ w'.cell? ⟨x, off + k * 5 + 4, none⟩ = some (.slice a1 n1 k1) ∧ w'.cell? ⟨y, off' + k * 5, none⟩ = some (.string s) ∧ w'.cell? ⟨y, off' + k * 5 + 1, none⟩ = some (.string p) ∧ w'.cell? ⟨y, off' + k * 5 + 2, none⟩ = some (.string o) ∧ w'.cell? ⟨y, off' + k * 5 + 3, none⟩ = some (.int .i64 r) ∧ w'.cell? ⟨y, off' + k * 5 + 4, none⟩ = some (.slice a2 n2 k2))
        (first | go_keep | (go_split_ands; refine ⟨?_, ?_, ?_, ?_, ?_, ?_, ?_, ?_, ?_, ?_⟩ <;> (rw [ha4.cell (by first | (simp; done) | exact World.block_lt_of_cell? _ _ (by assumption))]; assumption)))
        (first | (go_at_call 18; refine (E.out _ (Below.drew (Below.refl _ _))).mono ?_; rintro e wa ⟨rfl, ha4⟩))
      have B : Below w.heap.size w wa := (Below.drew hnx).trans (ha4.mono hnx.size)
      clear ha4 hnx c0 c1 c2 c3 c4 d0 d1 d2 d3 d4 E
      go_wp2_with fail
      go_roundw
      case rel => exact ⟨k + 1, by omega, by go_num, B⟩
      case measure => simp [intOf]; omega
    · go_wp2_with fail
      go_ret
      exact ⟨rfl, hnx⟩
end Go.Proofs.Ytonikgmplgcplaa
/- Numbers and steps that are marked. -/
namespace Go.Proofs.Ytonikgmplgcplaa
open Go.RowKit Go.WideShapes
set_option maxRecDepth 100000 in
set_option maxHeartbeats 1600000 in
theorem markInts (B : Nat) (v : Value) (zs : List Int) (w : World) (h : OwnI B w v zs) (hl : zs.length ≤ 1048576) (k0 : Nat) (hk1 : k0 ≤ 8000000) :
    Calls Try.prog 20 #[v, .int .i64 k0] w fun e w' => e = .returned (.int .i64 ((k0 + zs.length : Nat) : Int)) ∧ w.grownBy w' v.ownBlock := by
  obtain ⟨n, hn⟩ : ∃ n, zs.length = n := ⟨_, rfl⟩
  rw [hn] at hl ⊢
  by_cases hz : n = 0
  · subst hz
    obtain rfl : zs = [] := List.length_eq_zero_iff.1 hn
    obtain ⟨a, c, rfl⟩ : ∃ a c, v = .slice a 0 c := by
      rcases h.2 with ⟨rfl, _⟩ | ⟨g, c, cur, rfl, _⟩
      · exact ⟨_, _, rfl⟩
      · exact ⟨_, _, rfl⟩
    clear h hn
    go_enter Try.func20, Try.ntmps20
    go_wp2_with fail
    refine wp_loop_rounds 1 ?_
    rw [rounds_succ]
    go_wp2_with fail
    go_ret
    exact ⟨rfl, World.grownBy.refl _ _⟩
  unfold OwnI at h
  rw [hn] at h
  obtain ⟨g, c, rfl⟩ : ∃ g c, v = .slice (some ⟨g, 0, none⟩) n c := by
    rcases h.2 with ⟨_, e⟩ | ⟨g, c, cur, rfl, _⟩
    · exact absurd e hz
    · exact ⟨g, c, rfl⟩
  have O0 := h
  obtain ⟨xs0, hxs⟩ : ∃ xs, zs.map intV = xs := ⟨_, rfl⟩
  rw [hxs] at O0
  clear h hxs hn
  go_enter Try.func20, Try.ntmps20
  go_wp2_with fail
  go_loopw [1, 5] (fun q i wr => ∃ k : Nat, k ≤ n ∧ i = .int .i64 k ∧ q = .int .i64 ((k0 + k : Nat) : Int) ∧ (∃ xs : List Value, wr.ownsRow B 2 1 (.slice (some ⟨g, 0, none⟩) n c) n xs) ∧ w.grownBy wr (some g)) (fun _ i _ => n - (intOf i).toNat)
  case atStart => exact ⟨0, Nat.zero_le _, rfl, by rw [Nat.add_zero], ⟨_, O0⟩, World.grownBy.refl _ _⟩
  case round =>
    obtain ⟨k, hk, rfl, rfl, ⟨xs, hown⟩, hnx⟩ := hrel
    by_cases hlt : k < n
    · have hk6 : (0 : Int) ≤ (k : Int) := by omega
      have hk7 : (k : Int) < (n : Int) := by omega
      have hxl : xs.length = n := by have := hown.1; omega
      have e0 : wr.cell? ⟨g, k, none⟩ = some (xs[k]'(by omega)) := by rw [hown.cellAt _ (by omega), List.getElem?_eq_getElem (by omega)]
      have f0 := hown.frozenAt k
      obtain ⟨q, hq⟩ : ∃ q : Nat, k0 + k = q := ⟨_, rfl⟩
      rw [hq]
      have P2 := (hown.stored k (.int .i64 (q : Int))).1
      have G2 := grown_set hnx k (.int .i64 (q : Int))
      have hqs : q ≤ 10000000 := by omega
      have hq3 : ((k0 + (k + 1) : Nat) : Int) = (q : Int) + 1 := by omega
      have HQ3 := Lib.hid hq3
      generalize xs[k]'(by omega) = z0 at e0
      clear hq hq3 hxl hown hnx
      go_wp2_with fail
      go_roundw
      case rel => exact ⟨k + 1, by omega, by go_num, by rw [HQ3.out], ⟨_, P2⟩, G2⟩
      case measure => simp [intOf]; omega
    · obtain rfl : k = n := by omega
      go_wp2_with fail
      go_ret
      exact ⟨rfl, hnx⟩
/-- Only what lies between two blocks, and what is new, is changed. -/
def Betw (B C : Nat) (w w' : World) : Prop := Below B w w' ∧ ∀ k, C ≤ k → k < w.heap.size → w'.heap[k]? = w.heap[k]?
theorem Betw.refl (B C : Nat) (w : World) : Betw B C w w := ⟨Below.refl _ _, fun _ _ _ => rfl⟩
theorem Betw.grown {B C : Nat} {w wr w' : World} {row : Option Nat} (h : Betw B C w wr) (hg : wr.grownBy w' row) (hB : B ≤ w.heap.size) (hr : ∀ j, row = some j → B ≤ j ∧ j < C) : Betw B C w w' :=
  ⟨h.1.grown hg (Nat.le_trans hB h.1.size) (fun j hj => (hr j hj).1), fun k hk hl => (hg.block k (Nat.lt_of_lt_of_le hl h.1.size) (fun e => by have := hr k e.symm; omega)).trans (h.2 k hk hl)⟩
theorem Betw.next {B C : Nat} {w wr w' : World} (h : Betw B C w wr) (hb : Below wr.heap.size wr w') (hB : B ≤ w.heap.size) : Betw B C w w' := h.grown (grown_of_below hb) hB (by simp)
theorem Betw.set {B C : Nat} {w wr : World} (h : Betw B C w wr) (hB : B ≤ w.heap.size) {g : Nat} (h1 : B ≤ g) (h2 : g < C) (j : Nat) (q : Value) : Betw B C w (wr.setCell ⟨g, j, none⟩ q) :=
  h.grown (grown_set (World.grownBy.refl wr (some g)) j q) hB (fun i e => by cases e; exact ⟨h1, h2⟩)
set_option maxRecDepth 100000 in
set_option maxHeartbeats 3200000 in
theorem markSteps (B C : Nat) (len : Nat) (ts : List StepV) (us : List Value) (w : World) (h : w.ownsRow B 41 5 (.slice (some ⟨B, 0, none⟩) len len) len (flat5 ts us)) (hi : Inn (B + 1) w ts us) (hC : ∀ u ∈ us, ∀ j, u.ownBlock = some j → j < C) (hBC : B < C) (hl : len + tot ts ≤ 1048576) (hts : ts.length = len) :
    Calls Try.prog 10 #[.slice (some ⟨B, 0, none⟩) len len, .int .i64 1] w fun e w' => (∃ m : Nat, e = .returned (.int .i64 m)) ∧ Betw B C w w' := by
  have hBw : B < w.heap.size := (World.ownsRow.lt h B (by simp [Value.ownBlock])).2
  have HT := Lib.hid hts
  have HC := Lib.hid hC
  have HUL : Hid (us.length = len) := Lib.hid (by have := hi.1; omega)
  have HPW := Lib.hid hi.2.2
  have HF : Hid (∀ j u, 0 ≤ j → us[j]? = some u → (flat5 ts us)[j * 5 + 4]? = some u) := Lib.hid (fun j u _ hu => by
    have hjl := (List.getElem?_eq_some_iff.1 hu).1
    have ht : ts[j]? = some (ts[j]'(by have := hi.1; omega)) := List.getElem?_eq_getElem _
    exact (flat5_at ts us hi.1 j _ u ht hu).2.2.2.2)
  have HI : Hid (∀ j u t, 0 ≤ j → us[j]? = some u → ts[j]? = some t → OwnI (B + 1) w u t.2.2) := Lib.hid (fun j u t _ hu ht => hi.2.1 j u t hu ht)
  have O0 := h
  generalize flat5 ts us = xs0 at O0 HF
  clear h hi hC hts
  go_enter Try.func10, Try.ntmps10
  go_wp2_with fail
  go_loopw [1, 5] (fun q i wr => ∃ k : Nat, k ≤ len ∧ i = .int .i64 k ∧ (∃ m : Nat, q = .int .i64 (m : Int) ∧ 1 ≤ m ∧ m ≤ 1 + 4 * k + tot (ts.take k)) ∧ (∃ xs : List Value, wr.ownsRow B 41 5 (.slice (some ⟨B, 0, none⟩) len len) len xs ∧ Hid (∀ j u, k ≤ j → us[j]? = some u → xs[j * 5 + 4]? = some u)) ∧ Hid (∀ j u t, k ≤ j → us[j]? = some u → ts[j]? = some t → OwnI (B + 1) wr u t.2.2) ∧ Hid (Betw B C w wr)) (fun _ i _ => len - (intOf i).toNat)
  case atStart => exact ⟨0, Nat.zero_le _, rfl, ⟨1, rfl, Nat.le_refl _, by simp [tot]⟩, ⟨_, O0, HF⟩, HI, Lib.hid (Betw.refl _ _ _)⟩
  case round =>
    obtain ⟨k, hk, rfl, ⟨m, rfl, hm1, hm2⟩, ⟨xs, hown, hxs⟩, hin, hbt⟩ := hrel
    clear O0 HF HI
    have hk6 : (0 : Int) ≤ (k : Int) := by omega
    by_cases hlt : k < len
    · have hk7 : (k : Int) < (len : Int) := by omega
      have hu : us[k]? = some (us[k]'(by have := HUL.out; omega)) := List.getElem?_eq_getElem _
      have ht : ts[k]? = some (ts[k]'(by have := HT.out; omega)) := List.getElem?_eq_getElem _
      have hcu := HC.out _ (List.mem_of_getElem? hu)
      have hxu := hxs.out k _ (Nat.le_refl _) hu
      have hou := hin.out k _ _ (Nat.le_refl _) hu ht
      have hpw : Hid (∀ j u', k < j → us[j]? = some u' → ∀ b, (us[k]'(by have := HUL.out; omega)).ownBlock = some b → u'.ownBlock ≠ some b) := Lib.hid (fun j u' hj hu' b hb => by
        have hjl := (List.getElem?_eq_some_iff.1 hu').1
        have := (List.pairwise_iff_getElem.1 HPW.out) k j (by have := HUL.out; omega) hjl hj b hb
        rw [(List.getElem?_eq_some_iff.1 hu').2] at this
        exact this)
      have HS : Hid (tot (ts.take (k + 1)) = tot (ts.take k) + (ts[k]'(by have := HT.out; omega)).2.2.length) := Lib.hid (by rw [List.take_succ_eq_append_getElem (by have := HT.out; omega), tot_snoc])
      have hle : tot (ts.take (k + 1)) ≤ tot ts := by
        have e := List.take_append_drop (k + 1) ts
        have e2 : tot (ts.take (k + 1) ++ ts.drop (k + 1)) = tot (ts.take (k + 1)) + tot (ts.drop (k + 1)) := by
          unfold tot
          rw [List.map_append, List.sum_append]
        rw [e] at e2
        omega
      generalize us[k]'(by have := HUL.out; omega) = u at hu hcu hxu hou hpw
      generalize ts[k]'(by have := HT.out; omega) = t at ht hou HS
      obtain ⟨⟨s, p, o⟩, r, zs⟩ := t
      simp only at hou HS
      have hzl : zs.length ≤ 1048576 := by have := HS.out; omega
      obtain ⟨ua, uc, rfl, _⟩ := hou.is
      have hmb : m ≤ 6000000 := by have := HS.out; omega
      have m0 := markText m (by omega) (by omega)
      have m1 := markText (m + 1) (by omega) (by omega)
      have m2 := markText (m + 2) (by omega) (by omega)
      have c1 : ((m + 1 : Nat) : Int) = (m : Int) + 1 := by omega
      have c2 : ((m + 2 : Nat) : Int) = (m : Int) + 1 + 1 := by omega
      rw [c1] at m1
      rw [c2] at m2
      have M0 := Lib.hid m0
      have M1 := Lib.hid m1
      have M2 := Lib.hid m2
      have HOU := Lib.hid hou
      have HTT := Lib.hid ht
      have HUU := Lib.hid hu
      have hxl : xs.length = len * 5 := hown.1
      have HCU := Lib.hid hcu
      have HXU := Lib.hid hxu
      have hBw2 : B ≤ w.heap.size := Nat.le_of_lt hBw
      clear m0 m1 m2 c1 c2 hou hcu hxu ht hu hle
      go_wp2_with fail
      refine (M0.out _).mono ?_
      rintro e w1 ⟨rfl, hb1⟩
      have T1 := hbt.out.next hb1 hBw2
      have P1 := hown.kept (grown_of_below hb1) (.inr (by simp [Value.ownBlock]))
      have N1 : Hid (∀ j u t, k ≤ j → us[j]? = some u → ts[j]? = some t → OwnI (B + 1) w1 u t.2.2) := Lib.hid (fun j u t hj hu ht => (hin.out j u t hj hu ht).kept hb1)
      have e0 : w1.cell? ⟨B, k * 5, none⟩ = some (xs[k * 5]'(by omega)) := by rw [P1.cellAt _ (by omega), List.getElem?_eq_getElem (by omega)]
      have f0 := P1.frozenAt (k * 5)
      have P2 := (P1.stored (k * 5) (.string (mark m))).1
      have T2 := T1.set hBw2 (Nat.le_refl B) hBC (k * 5) (.string (mark m))
      generalize xs[k * 5]'(by omega) = z0 at e0
      clear hb1 hown P1 T1 hbt hin
      go_wp2_with fail
      refine (M1.out _).mono ?_
      rintro e w2 ⟨rfl, hb2⟩
      have T3 := T2.next hb2 hBw2
      have P3 := P2.kept (grown_of_below hb2) (.inr (by simp [Value.ownBlock]))
      have N3 : Hid (∀ j u t, k ≤ j → us[j]? = some u → ts[j]? = some t → OwnI (B + 1) w2 u t.2.2) := Lib.hid (fun j u t hj hu ht => ((N1.out j u t hj hu ht).set (Nat.lt_succ_self _) (k * 5) (.string (mark m))).kept hb2)
      obtain ⟨ys, hys⟩ : ∃ ys, xs.set (k * 5) (.string (mark m)) = ys := ⟨_, rfl⟩
      rw [hys] at P3
      have HYS := Lib.hid hys
      have hyl : ys.length = len * 5 := P3.1
      have e1 : w2.cell? ⟨B, k * 5 + 1, none⟩ = some (ys[k * 5 + 1]'(by omega)) := by rw [P3.cellAt _ (by omega), List.getElem?_eq_getElem (by omega)]
      have f1 := P3.frozenAt (k * 5 + 1)
      have P4 := (P3.stored (k * 5 + 1) (.string (mark (m + 1)))).1
      have T4 := T3.set hBw2 (Nat.le_refl B) hBC (k * 5 + 1) (.string (mark (m + 1)))
      generalize ys[k * 5 + 1]'(by omega) = z1 at e1
      clear hb2 P2 P3 T2 T3 e0 f0 hys N1
      go_wp2_with fail
      refine (M2.out _).mono ?_
      rintro e w3 ⟨rfl, hb3⟩
      have T5 := T4.next hb3 hBw2
      have P5 := P4.kept (grown_of_below hb3) (.inr (by simp [Value.ownBlock]))
      have N5 : Hid (∀ j u t, k ≤ j → us[j]? = some u → ts[j]? = some t → OwnI (B + 1) w3 u t.2.2) := Lib.hid (fun j u t hj hu ht => ((N3.out j u t hj hu ht).set (Nat.lt_succ_self _) (k * 5 + 1) (.string (mark (m + 1)))).kept hb3)
      obtain ⟨vs, hvs⟩ : ∃ vs, ys.set (k * 5 + 1) (.string (mark (m + 1))) = vs := ⟨_, rfl⟩
      rw [hvs] at P5
      have HVS := Lib.hid hvs
      have hvl : vs.length = len * 5 := P5.1
      have e2 : w3.cell? ⟨B, k * 5 + 2, none⟩ = some (vs[k * 5 + 2]'(by omega)) := by rw [P5.cellAt _ (by omega), List.getElem?_eq_getElem (by omega)]
      have e3 : w3.cell? ⟨B, k * 5 + 3, none⟩ = some (vs[k * 5 + 3]'(by omega)) := by rw [P5.cellAt _ (by omega), List.getElem?_eq_getElem (by omega)]
      have hv4 : vs[k * 5 + 4]? = some (.slice ua zs.length uc) := by
        rw [← HVS.out, ← HYS.out, List.getElem?_set_ne (by omega), List.getElem?_set_ne (by omega)]; exact HXU.out
      have e4 : w3.cell? ⟨B, k * 5 + 4, none⟩ = some (.slice ua zs.length uc) := by rw [P5.cellAt _ (by omega), hv4]
      have f2 := P5.frozenAt (k * 5 + 2)
      have f3 := P5.frozenAt (k * 5 + 3)
      have P7 := ((P5.stored (k * 5 + 2) (.string (mark (m + 2)))).1.stored (k * 5 + 3) (.int .i64 ((m : Int) + 1 + 1 + 1))).1
      have T7 := (T5.set hBw2 (Nat.le_refl B) hBC (k * 5 + 2) (.string (mark (m + 2)))).set hBw2 (Nat.le_refl B) hBC (k * 5 + 3) (.int .i64 ((m : Int) + 1 + 1 + 1))
      have N7 : Hid (∀ j u t, k ≤ j → us[j]? = some u → ts[j]? = some t → OwnI (B + 1) ((w3.setCell ⟨B, k * 5 + 2, none⟩ (.string (mark (m + 2)))).setCell ⟨B, k * 5 + 3, none⟩ (.int .i64 ((m : Int) + 1 + 1 + 1))) u t.2.2) := Lib.hid (fun j u t hj hu ht => ((N5.out j u t hj hu ht).set (Nat.lt_succ_self _) (k * 5 + 2) (.string (mark (m + 2)))).set (Nat.lt_succ_self _) (k * 5 + 3) (.int .i64 ((m : Int) + 1 + 1 + 1)))
      have hq3 : ((m + 4 : Nat) : Int) = (m : Int) + 1 + 1 + 1 + 1 := by omega
      have MI := markInts (B + 1) (.slice ua zs.length uc) zs _ (N7.out k _ _ (Nat.le_refl _) HUU.out HTT.out) hzl (m + 4) (by omega)
      rw [hq3] at MI
      have HMI := Lib.hid MI
      generalize vs[k * 5 + 2]'(by omega) = z2 at e2
      generalize vs[k * 5 + 3]'(by omega) = z3 at e3
      have HV4 := Lib.hid hv4
      clear hb3 P4 P5 T4 T5 e1 f1 hvs N3 N5 MI hq3 hv4
      go_wp2_with fail
      clear e2 e3 e4 f2 f3
      refine HMI.out.mono ?_
      rintro e w5 ⟨rfl, hg⟩
      have hlu := (World.ownsRow.lt HOU.out)
      have O9 := P7.kept hg (.inr (by
        intro e
        have := (hlu B (by rw [← e]; simp [Value.ownBlock])).1
        omega))
      have T9 := T7.grown hg hBw2 (fun j hj => ⟨by have := (hlu j hj).1; omega, HCU.out j hj⟩)
      have N9 : Hid (∀ j u t, k + 1 ≤ j → us[j]? = some u → ts[j]? = some t → OwnI (B + 1) w5 u t.2.2) := Lib.hid (fun j u t hj hu ht => World.ownsRow.kept (N7.out j u t (by omega) hu ht) hg (by
        rcases hb : u.ownBlock with _ | b
        · exact .inl rfl
        · exact .inr (fun e => hpw.out j u (by omega) hu b e.symm hb)))
      have X9 : Hid (∀ j u, k + 1 ≤ j → us[j]? = some u → ((vs.set (k * 5 + 2) (.string (mark (m + 2)))).set (k * 5 + 3) (.int .i64 ((m : Int) + 1 + 1 + 1)))[j * 5 + 4]? = some u) := Lib.hid (fun j u hj hu => by
        rw [List.getElem?_set_ne (by omega), List.getElem?_set_ne (by omega), ← HVS.out, ← HYS.out, List.getElem?_set_ne (by omega), List.getElem?_set_ne (by omega)]
        exact hxs.out j u (by omega) hu)
      clear hg P7 T7 N7 HMI
      go_wp2_with fail
      go_roundw
      case rel => exact ⟨k + 1, by omega, by go_num, ⟨m + 4 + zs.length, rfl, by omega, by rw [HS.out]; omega⟩, ⟨_, O9, X9⟩, N9, Lib.hid T9⟩
      case measure => simp [intOf]; omega
    · go_wp2_with fail
      go_ret
      exact ⟨⟨m, rfl⟩, hbt.out⟩
end Go.Proofs.Ytonikgmplgcplaa
/- A slice of triples of whatever length that is marked, from whatever number on. -/
namespace Go.Proofs.Ytonikgmplgcplaa
open Go.RowKit Go.WideShapes
set_option maxRecDepth 100000 in
set_option maxHeartbeats 1600000 in
theorem markAny (B : Nat) (v : Value) (ts : List Tri3) (w : World) (h : OwnT B w v ts) (hl : ts.length ≤ 1048576) (k0 : Nat) (hk0 : 0 < k0) (hk1 : k0 ≤ 4000000) :
    Calls Try.prog 11 #[v, .int .i64 k0] w fun e w' => e = .returned (.int .i64 ((k0 + 3 * ts.length : Nat) : Int)) ∧ w.grownBy w' v.ownBlock := by
  obtain ⟨n, hn⟩ : ∃ n, ts.length = n := ⟨_, rfl⟩
  rw [hn] at hl ⊢
  by_cases hz : n = 0
  · subst hz
    obtain rfl : ts = [] := List.length_eq_zero_iff.1 hn
    obtain ⟨a, c, rfl⟩ : ∃ a c, v = .slice a 0 c := by
      rcases h.2 with ⟨rfl, _⟩ | ⟨g, c, cur, rfl, _⟩
      · exact ⟨_, _, rfl⟩
      · exact ⟨_, _, rfl⟩
    clear h hn
    go_enter Try.func11, Try.ntmps11
    go_wp2_with fail
    refine wp_loop_rounds 1 ?_
    rw [rounds_succ]
    go_wp2_with fail
    go_ret
    exact ⟨rfl, World.grownBy.refl _ _⟩
  unfold OwnT at h
  rw [hn] at h
  obtain ⟨g, c, rfl⟩ : ∃ g c, v = .slice (some ⟨g, 0, none⟩) n c := by
    rcases h.2 with ⟨_, e⟩ | ⟨g, c, cur, rfl, _⟩
    · exact absurd e hz
    · exact ⟨g, c, rfl⟩
  have O0 := h
  obtain ⟨xs0, hxs⟩ : ∃ xs, flat ts = xs := ⟨_, rfl⟩
  rw [hxs] at O0
  clear h hxs hn
  go_enter Try.func11, Try.ntmps11
  go_wp2_with fail
  go_loopw [1, 5] (fun q i wr => ∃ k : Nat, k ≤ n ∧ i = .int .i64 k ∧ q = .int .i64 ((k0 + 3 * k : Nat) : Int) ∧ (∃ xs : List Value, wr.ownsRow B 39 3 (.slice (some ⟨g, 0, none⟩) n c) n xs) ∧ w.grownBy wr (some g)) (fun _ i _ => n - (intOf i).toNat)
  case atStart => exact ⟨0, Nat.zero_le _, rfl, by rw [Nat.mul_zero, Nat.add_zero], ⟨_, O0⟩, World.grownBy.refl _ _⟩
  case round =>
    obtain ⟨k, hk, rfl, rfl, ⟨xs, hown⟩, hnx⟩ := hrel
    by_cases hlt : k < n
    · have hk6 : (0 : Int) ≤ (k : Int) := by omega
      have hk7 : (k : Int) < (n : Int) := by omega
      have m0 := markText (k0 + 3 * k) (by omega) (by omega)
      have m1 := markText (k0 + 3 * k + 1) (by omega) (by omega)
      have m2 := markText (k0 + 3 * k + 2) (by omega) (by omega)
      obtain ⟨q, hq⟩ : ∃ q : Nat, k0 + 3 * k = q := ⟨_, rfl⟩
      rw [hq] at m0 m1 m2
      have c1 : ((q + 1 : Nat) : Int) = (q : Int) + 1 := by omega
      have c2 : ((q + 2 : Nat) : Int) = (q : Int) + 1 + 1 := by omega
      rw [c1] at m1
      rw [c2] at m2
      have M0 := Lib.hid m0
      have M1 := Lib.hid m1
      have M2 := Lib.hid m2
      have hxl : xs.length = n * 3 := hown.1
      clear m0 m1 m2 c1 c2
      rw [hq]
      have hqs : q ≤ 8000000 := by omega
      have hq3 : ((k0 + 3 * (k + 1) : Nat) : Int) = (q : Int) + 1 + 1 + 1 := by omega
      have HQ3 := Lib.hid hq3
      clear hq hq3
      go_wp2_with fail
      refine (M0.out _).mono ?_
      rintro e w1 ⟨rfl, hb1⟩
      have G1 := hnx.trans (grown_any (grown_of_below hb1) (some g))
      have P1 := own_keep hown hb1
      have e0 : w1.cell? ⟨g, k * 3, none⟩ = some (xs[k * 3]'(by omega)) := by rw [P1.cellAt _ (by omega), List.getElem?_eq_getElem (by omega)]
      have f0 := P1.frozenAt (k * 3)
      have P2 := (P1.stored (k * 3) (.string (mark q))).1
      have G2 := grown_set G1 (k * 3) (.string (mark q))
      generalize xs[k * 3]'(by omega) = z0 at e0
      clear hb1 hnx hown P1 G1
      go_wp2_with fail
      refine (M1.out _).mono ?_
      rintro e w2 ⟨rfl, hb2⟩
      have G3 := G2.trans (grown_any (grown_of_below hb2) (some g))
      have P3 := own_keep P2 hb2
      obtain ⟨ys, hys⟩ : ∃ ys, xs.set (k * 3) (.string (mark q)) = ys := ⟨_, rfl⟩
      rw [hys] at P3
      have hyl : ys.length = n * 3 := P3.1
      have e1 : w2.cell? ⟨g, k * 3 + 1, none⟩ = some (ys[k * 3 + 1]'(by omega)) := by rw [P3.cellAt _ (by omega), List.getElem?_eq_getElem (by omega)]
      have f1 := P3.frozenAt (k * 3 + 1)
      have P4 := (P3.stored (k * 3 + 1) (.string (mark (q + 1)))).1
      have G4 := grown_set G3 (k * 3 + 1) (.string (mark (q + 1)))
      generalize ys[k * 3 + 1]'(by omega) = z1 at e1
      clear hb2 P2 P3 G2 G3 e0 f0 hys
      go_wp2_with fail
      refine (M2.out _).mono ?_
      rintro e w3 ⟨rfl, hb3⟩
      have G5 := G4.trans (grown_any (grown_of_below hb3) (some g))
      have P5 := own_keep P4 hb3
      obtain ⟨us, hus⟩ : ∃ us, ys.set (k * 3 + 1) (.string (mark (q + 1))) = us := ⟨_, rfl⟩
      rw [hus] at P5
      have hul : us.length = n * 3 := P5.1
      have e2 : w3.cell? ⟨g, k * 3 + 2, none⟩ = some (us[k * 3 + 2]'(by omega)) := by rw [P5.cellAt _ (by omega), List.getElem?_eq_getElem (by omega)]
      have f2 := P5.frozenAt (k * 3 + 2)
      have P6 := (P5.stored (k * 3 + 2) (.string (mark (q + 2)))).1
      have G6 := grown_set G5 (k * 3 + 2) (.string (mark (q + 2)))
      generalize us[k * 3 + 2]'(by omega) = z2 at e2
      clear hb3 P4 P5 G4 G5 e1 f1 hus
      go_wp2_with fail
      go_roundw
      case rel => exact ⟨k + 1, by omega, by go_num, by rw [HQ3.out], ⟨_, P6⟩, G6⟩
      case measure => simp [intOf]; omega
    · obtain rfl : k = n := by omega
      go_wp2_with fail
      go_ret
      exact ⟨rfl, hnx⟩
theorem dig_len : ∀ n : Nat, (dig n).length ≤ n := by
  intro n
  induction n using Nat.strongRecOn with
  | _ n ih =>
    rcases Nat.eq_zero_or_pos n with rfl | h
    · rw [dig_zero]; simp
    · rw [dig_step h, List.length_append, List.length_singleton]
      have := ih (n / 10) (by omega)
      omega
theorem marks_small (n : Nat) (hn : n ≤ 80) : ∀ t ∈ marksT n, t.1.size ≤ maxLen ∧ t.2.1.size ≤ maxLen ∧ t.2.2.size ≤ maxLen := by
  intro t ht
  unfold marksT at ht
  obtain ⟨i, hi, rfl⟩ := List.mem_map.1 ht
  have hi := List.mem_range.1 hi
  have a := dig_len (1 + 3 * i)
  have b := dig_len (1 + 3 * i + 1)
  have c := dig_len (1 + 3 * i + 2)
  unfold markT mark maxLen
  simp only [bs_size, List.length_cons]
  omega
end Go.Proofs.Ytonikgmplgcplaa
