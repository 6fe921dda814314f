/- The exact laws' own copies of numbers and of steps. -/
import Derived.Test.YteejpceliodcfaaStepZ
namespace Go.Proofs.Yteejpceliodcfaa
open Go.RowKit Go.WideShapes
def intV (z : Int) : Value := .int .i64 z
theorem infoI64 : (Try.prog.info? 2).map (fun i => (i.zero, i.size, i.bytes)) = some (some (.int .i64 0), 1, 8) := by kernel_rfl
theorem infoStep : (Try.prog.info? 117).map (fun i => (i.zero, i.size, i.bytes)) = some (some (.agg #[.string ⟨#[]⟩, .string ⟨#[]⟩, .string ⟨#[]⟩, .int .i64 0, .slice none 0 0]), 5, 80) := by kernel_rfl
/-- The call owns a slice of these numbers. -/
def OwnI (B : Nat) (w : World) (v : Value) (zs : List Int) : Prop := w.ownsRow B 2 1 v zs.length (zs.map intV)
theorem OwnI.is {B : Nat} {w : World} {v : Value} {zs : List Int} (h : OwnI B w v zs) : ∃ a cap, v = .slice a zs.length cap ∧ IsInts w a zs.length cap zs := by
  have h0 := h
  obtain ⟨_, hc⟩ := h
  rcases hc with ⟨rfl, hl⟩ | ⟨g, cap, cur, rfl, _, _, h1, h2, _⟩
  · exact ⟨none, 0, by rw [hl], .inl ⟨rfl, hl, rfl, List.length_eq_zero_iff.1 hl⟩⟩
  · refine ⟨_, cap, rfl, .inr ⟨_, rfl, h1, h2, rfl, fun i z hi => ?_⟩⟩
    have hl : i < zs.length := (List.getElem?_eq_some_iff.1 hi).1
    have k0 := h0.cellAt i (by omega)
    rw [add_plain, Nat.zero_add, k0, List.getElem?_map, hi]
    rfl
theorem OwnI.kept {B : Nat} {w w' : World} {v : Value} {zs : List Int} (h : OwnI B w v zs) (hb : Below w.heap.size w w') : OwnI B w' v zs := World.ownsRow.kept h (grown_of_below hb) (by
  rcases hv : v.ownBlock with _ | i
  · exact .inl rfl
  · exact .inr (by simp))
theorem OwnI.base {B C : Nat} {w : World} {v : Value} {zs : List Int} (h : OwnI B w v zs) (hc : C ≤ B) : OwnI C w v zs := by
  obtain ⟨h1, h2⟩ := h
  refine ⟨h1, ?_⟩
  rcases h2 with h2 | ⟨g, cap, cur, e, hB, r⟩
  · exact .inl h2
  · exact .inr ⟨g, cap, cur, e, Nat.le_trans hc hB, r⟩
theorem OwnI.set {B : Nat} {w : World} {v : Value} {zs : List Int} (h : OwnI B w v zs) {g : Nat} (hg : g < B) (j : Nat) (u : Value) : OwnI B (w.setCell ⟨g, j, none⟩ u) v zs := by
  refine World.ownsRow.kept h (row := some g) ⟨rfl, rfl, rfl, by simp [World.setCell], fun k _ hne => Below.heap_setCell _ _ _ _ (fun e => hne (by rw [e]))⟩ ?_
  rcases hv : v.ownBlock with _ | q
  · exact .inl rfl
  · exact .inr (fun e => by cases e; have := (World.ownsRow.lt h g hv).1; omega)
theorem setI {xs l : List Value} {k : Nat} (a : Value) (h : xs.take k = l) (hl : k < xs.length) : (xs.set k a).take (k + 1) = l ++ [a] := by
  subst h
  rw [List.take_add_one, List.take_set_of_le (Nat.le_refl _), List.getElem?_set_self hl]; rfl
set_option maxRecDepth 100000 in
set_option maxHeartbeats 1600000 in
theorem toInts (a : Option Addr) (len cap : Nat) (zs : List Int) (w : World) (h : IsInts w a len cap zs) (hs : len ≤ 1048576) :
    Calls Try.prog 130 #[.slice a len cap] w fun e w' => ∃ c, e = .returned (.slice (some ⟨w.heap.size, 0, none⟩) len c) ∧ OwnI w.heap.size w' (.slice (some ⟨w.heap.size, 0, none⟩) len c) zs ∧ Below w.heap.size w w' := by
  obtain ⟨i0, hi, hz0, hz1, hz2⟩ := info_parts infoI64
  have HT := Lib.hid h.len
  have H := Lib.hid h
  clear h
  go_enter Try.func130, Try.ntmps130
  go_wp2_with (at_make; refine wpList_make_full _ rfl _ _ 113 rfl w.heap.size 2 i0 _ 1 Try.underlying113 hi hz0 hz1 .i64 .i64 _ _ len rfl rfl rfl rfl ?c1 ?c2 (Nat.le_refl _) ?_)
  case c1 => rw [hz2]; omega
  case c2 => unfold maxLen; omega
  intro w0 hown0 hg0
  have hb0 : Below w.heap.size w w0 := (Below.refl _ _).grown hg0 (Nat.le_refl _) (by simp)
  clear hg0
  go_wp2_with fail
  go_loopw [4] (fun i wr => ∃ k : Nat, k ≤ len ∧ i = .int .i64 k ∧ (∃ xs : List Value, wr.ownsRow w.heap.size 2 1 (.slice (some ⟨w.heap.size, 0, none⟩) len len) len xs ∧ Hid (xs.take k = (zs.take k).map intV)) ∧ Below w.heap.size w wr) (fun i _ => len - (intOf i).toNat)
  case atStart => exact ⟨0, Nat.zero_le _, rfl, ⟨_, hown0, Lib.hid (by simp)⟩, hb0⟩
  case round =>
    obtain ⟨k, hk, rfl, ⟨xs, hown, hx⟩, hnx⟩ := hrel
    have hk6 : (0 : Int) ≤ (k : Int) := by omega
    by_cases hlt : k < len
    · obtain ⟨b, off, rfl, hb, hl, hm, hts, hc⟩ := H.out.cells (by omega)
      have ht : zs[k]? = some zs[k] := List.getElem?_eq_getElem (by omega)
      have HS : Hid (zs.take (k + 1) = zs.take k ++ [zs[k]]) := Lib.hid (List.take_succ_eq_append_getElem (by omega))
      have c0 := hc k _ ht
      rw [← hnx.cell (p := ⟨b, _, none⟩) hb] at c0
      generalize zs[k] = z at c0 HS
      clear ht hts hc hm
      have hlt2 : (k : Int) < (len : Int) := by omega
      have hxl : xs.length = len := by have := hown.1; omega
      have e0 : wr.cell? ⟨w.heap.size, k, none⟩ = some (xs[k]'(by omega)) := by rw [hown.cellAt _ (by omega), List.getElem?_eq_getElem (by omega)]
      have f0 := hown.frozenAt k
      have O1 := (hown.stored k (.int .i64 z)).1
      have HX : Hid ((xs.set k (.int .i64 z)).take (k + 1) = (zs.take (k + 1)).map intV) := Lib.hid (by
        rw [HS.out, List.map_append]; exact setI _ hx.out (by omega))
      have B3 := hnx.setCell (p := ⟨w.heap.size, k, none⟩) (Nat.le_refl _) (.int .i64 z)
      have HXL := Lib.hid hxl
      generalize xs[k]'(by omega) = z0 at e0
      clear hxl
      go_wp2_with fail
      go_roundw
      case rel => exact ⟨k + 1, by omega, by go_num, ⟨_, O1, HX⟩, B3⟩
      case measure => simp [intOf]; omega
    · have HX : Hid (xs = zs.map intV) := Lib.hid (by
        have := hx.out
        have hxl : xs.length = len := by have := hown.1; omega
        rwa [List.take_of_length_le (by omega), List.take_of_length_le (by rw [HT.out]; omega)] at this)
      go_wp2_with fail
      go_ret
      exact ⟨_, rfl, by unfold OwnI; rw [← HX.out, HT.out]; exact hown, hnx⟩
def StepPost (s p o : ByteArray) (r : Int) (zs : List Int) (w : World) (e : Ending) (w' : World) : Prop :=
  ∃ u, e = .returned (.agg #[.string s, .string p, .string o, .int .i64 r, u]) ∧ OwnI w.heap.size w' u zs ∧ Below w.heap.size w w'
theorem Box5.set0 {w : World} {g : Nat} {x y z u v : Value} {T : TypeId} (h : Box5 w g x y z u v T) (q : Value) : Box5 (w.setCell ⟨g, 0, none⟩ q) g q y z u v T := by
  unfold Box5 at h ⊢; simp [World.setCell, Array.getElem?_modify, h]
theorem Box5.set1 {w : World} {g : Nat} {x y z u v : Value} {T : TypeId} (h : Box5 w g x y z u v T) (q : Value) : Box5 (w.setCell ⟨g, 1, none⟩ q) g x q z u v T := by
  unfold Box5 at h ⊢; simp [World.setCell, Array.getElem?_modify, h]
theorem Box5.set2 {w : World} {g : Nat} {x y z u v : Value} {T : TypeId} (h : Box5 w g x y z u v T) (q : Value) : Box5 (w.setCell ⟨g, 2, none⟩ q) g x y q u v T := by
  unfold Box5 at h ⊢; simp [World.setCell, Array.getElem?_modify, h]
theorem Box5.set3 {w : World} {g : Nat} {x y z u v : Value} {T : TypeId} (h : Box5 w g x y z u v T) (q : Value) : Box5 (w.setCell ⟨g, 3, none⟩ q) g x y z q v T := by
  unfold Box5 at h ⊢; simp [World.setCell, Array.getElem?_modify, h]
theorem Box5.far {w : World} {g : Nat} {x y z u v : Value} {T : TypeId} (h : Box5 w g x y z u v T) {a : Addr} (ha : g ≠ a.block) (q : Value) : Box5 (w.setCell a q) g x y z u v T := (Below.heap_setCell w a q g ha).trans h
set_option maxRecDepth 100000 in
set_option maxHeartbeats 1600000 in
theorem toStep (s p o : ByteArray) (r : Int) (a : Option Addr) (len cap : Nat) (zs : List Int) (w : World) (h : IsInts w a len cap zs) (hs : len ≤ 1048576) :
    Calls Try.prog 94 #[.agg #[.string s, .string p, .string o, .int .i64 r, .slice a len cap]] w (StepPost s p o r zs w) := by
  obtain ⟨W, hW⟩ : ∃ W, ((w.alloc (.cells #[.string s, .string p, .string o, .int .i64 r, .slice a len cap] 115)).alloc (.cells #[.string ⟨#[]⟩, .string ⟨#[]⟩, .string ⟨#[]⟩, .int .i64 0, .slice none 0 0] 117)).alloc (.cells #[.string ⟨#[]⟩, .string ⟨#[]⟩, .string ⟨#[]⟩, .int .i64 0, .slice none 0 0] 117) = W := ⟨_, rfl⟩
  have X := ((Box5.new w (.string s) (.string p) (.string o) (.int .i64 r) (.slice a len cap) 115).alloc (.cells #[.string ⟨#[]⟩, .string ⟨#[]⟩, .string ⟨#[]⟩, .int .i64 0, .slice none 0 0] 117)).alloc (.cells #[.string ⟨#[]⟩, .string ⟨#[]⟩, .string ⟨#[]⟩, .int .i64 0, .slice none 0 0] 117)
  have B0 := (((Below.refl w.heap.size w).alloc (Nat.le_refl _) (.cells #[.string s, .string p, .string o, .int .i64 r, .slice a len cap] 115)).alloc (by simp) (.cells #[.string ⟨#[]⟩, .string ⟨#[]⟩, .string ⟨#[]⟩, .int .i64 0, .slice none 0 0] 117)).alloc (by simp; omega) (.cells #[.string ⟨#[]⟩, .string ⟨#[]⟩, .string ⟨#[]⟩, .int .i64 0, .slice none 0 0] 117)
  have Y := (Box5.new (w.alloc (.cells #[.string s, .string p, .string o, .int .i64 r, .slice a len cap] 115)) (.string ⟨#[]⟩) (.string ⟨#[]⟩) (.string ⟨#[]⟩) (.int .i64 0) (.slice none 0 0) 117).alloc (.cells #[.string ⟨#[]⟩, .string ⟨#[]⟩, .string ⟨#[]⟩, .int .i64 0, .slice none 0 0] 117)
  have Z := Box5.new ((w.alloc (.cells #[.string s, .string p, .string o, .int .i64 r, .slice a len cap] 115)).alloc (.cells #[.string ⟨#[]⟩, .string ⟨#[]⟩, .string ⟨#[]⟩, .int .i64 0, .slice none 0 0] 117)) (.string ⟨#[]⟩) (.string ⟨#[]⟩) (.string ⟨#[]⟩) (.int .i64 0) (.slice none 0 0) 117
  have e1 : (w.alloc (.cells #[.string s, .string p, .string o, .int .i64 r, .slice a len cap] 115)).heap.size = w.heap.size + 1 := by simp
  have e2 : ((w.alloc (.cells #[.string s, .string p, .string o, .int .i64 r, .slice a len cap] 115)).alloc (.cells #[.string ⟨#[]⟩, .string ⟨#[]⟩, .string ⟨#[]⟩, .int .i64 0, .slice none 0 0] 117)).heap.size = w.heap.size + 1 + 1 := by simp
  rw [e1] at Y
  rw [e2] at Z
  rw [hW] at X Y Z B0
  have HI := Lib.hid h
  clear e1 e2 h
  obtain ⟨c0, c1, c2, c3, c4⟩ := X.cells
  go_enter Try.func94, Try.ntmps94
  go_wp2_with fail
  clear hW
  refine (toTri s p o _).mono ?_
  rintro e w1 ⟨rfl, hb⟩
  have B1 := B0.trans (hb.mono B0.size)
  have X1 := X.next hb
  have Y1 := Y.next hb
  have Z1 := Z.next hb
  clear hb X Y Z B0 c0 c1 c2 c3 c4
  have B2 := (((B1.setCell (p := ⟨w.heap.size + 1 + 1, 0, none⟩) (by simp; omega) (.string s)).setCell (p := ⟨w.heap.size + 1 + 1, 1, none⟩) (by simp; omega) (.string p)).setCell (p := ⟨w.heap.size + 1 + 1, 2, none⟩) (by simp; omega) (.string o)).setCell (p := ⟨w.heap.size + 1 + 1, 3, none⟩) (by simp; omega) (.int .i64 r)
  have Z2 := (((Z1.set0 (.string s)).set1 (.string p)).set2 (.string o)).set3 (.int .i64 r)
  have Y2 := (((Y1.far (a := ⟨w.heap.size + 1 + 1, 0, none⟩) (by simp) (.string s)).far (a := ⟨w.heap.size + 1 + 1, 1, none⟩) (by simp) (.string p)).far (a := ⟨w.heap.size + 1 + 1, 2, none⟩) (by simp) (.string o)).far (a := ⟨w.heap.size + 1 + 1, 3, none⟩) (by simp) (.int .i64 r)
  obtain ⟨c0, c1, c2, c3, c4⟩ := X1.cells
  obtain ⟨d0, d1, d2, d3, d4⟩ := Z1.cells
  have f0 := Z1.free 0
  have f1 := Z1.free 1
  have f2 := Z1.free 2
  have f3 := Z1.free 3
  clear X1 Y1 Z1
  go_wp2_with fail
  clear c0 c1 c2 c3 c4 d0 d1 d2 d3 d4 f0 f1 f2 f3 B1
  generalize (((w1.setCell ⟨w.heap.size + 1 + 1, 0, none⟩ (.string s)).setCell ⟨w.heap.size + 1 + 1, 1, none⟩ (.string p)).setCell ⟨w.heap.size + 1 + 1, 2, none⟩ (.string o)).setCell ⟨w.heap.size + 1 + 1, 3, none⟩ (.int .i64 r) = W2 at B2 Z2 Y2 ⊢
  refine (toInts a len cap zs W2 (HI.out.next B2) hs).mono ?_
  rintro e w3 ⟨c, rfl, o3, hb⟩
  have B3 := B2.trans (hb.mono B2.size)
  have Z3 := Z2.next hb
  have Y3 := Y2.next hb
  have hz2 := Z2.lt
  clear hb B2 Z2 Y2 HI
  obtain ⟨d0, d1, d2, d3, d4⟩ := Z3.cells
  obtain ⟨k0, k1, k2, k3, k4⟩ := Y3.cells
  have f4 := Z3.free 4
  have q0 := Y3.free 0
  have q1 := Y3.free 1
  have q2 := Y3.free 2
  have q3 := Y3.free 3
  have q4 := Y3.free 4
  have hz := Z3.lt
  have hy := Y3.lt
  clear Z3 Y3
  have O3 := Lib.hid o3
  have hn1 : ¬ w.heap.size + 1 = w.heap.size + 1 + 1 := by omega
  have hn2 : ¬ w.heap.size + 1 + 1 = w.heap.size + 1 := by omega
  clear o3
  go_wp2_with fail
  refine bodyPost_ret (v := .agg #[.string s, .string p, .string o, .int .i64 r, .slice (some ⟨W2.heap.size, 0, none⟩) len c]) (by simp [results, Try.results94, go_sem, *]) rfl ⟨_, rfl, ?_, ?_⟩
  · exact OwnI.base ((((((O3.out.set hz2 4 _).set (by omega) 0 _).set (by omega) 1 _).set (by omega) 2 _).set (by omega) 3 _).set (by omega) 4 _) (by omega)
  · exact (((((B3.setCell (by simp; omega) _).setCell (by simp) _).setCell (by simp) _).setCell (by simp) _).setCell (by simp) _).setCell (by simp) _
end Go.Proofs.Yteejpceliodcfaa
