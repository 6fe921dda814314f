/- The walk of FnExactFilled. -/
import Derived.Test.YtinmjbgljgljkabFrame
import Derived.Test.YtinmjbgljgljkabExactR2
import Derived.Test.YtinmjbgljgljkabFill3
import Derived.Deep.RegionHeld3
import Derived.Deep.RegionWith
namespace Go.Proofs.Ytinmjbgljgljkab
open Go.RowKit Go.WideShapes
namespace fnExactFilled
theorem box_set3 {w : World} {g : Nat} {x y z : Value} {T : TypeId} (h : Box w g x y z T) (x' y' z' : Value) : Box (((w.setCell ⟨g, 0, none⟩ x').setCell ⟨g, 1, none⟩ y').setCell ⟨g, 2, none⟩ z') g x' y' z' T := by
  unfold Box at h ⊢; simp [World.setCell, Array.getElem?_modify, h]
theorem size_al {B : Nat} {w : World} {O : Obj} (h : B ≤ w.heap.size) : B ≤ (w.alloc O).heap.size := by simp; omega
theorem filledV_agg (ts : List Pre2) (s p o : ByteArray) : ∃ x y z : ByteArray, filledV ts s p o = .agg #[.string x, .string y, .string z] := by
  unfold filledV
  cases rowOk ts
  · exact ⟨s, p, o, rfl⟩
  · exact ⟨seen ts s, seen ts p, seen ts o, rfl⟩
set_option maxRecDepth 100000 in
set_option maxHeartbeats 3200000 in
theorem walk (a : Option Addr) (len cap : Nat) (ts : List Pre2) (s p o : ByteArray) (w : World) (h : IsPres w a len cap ts) (hs : s.size ≤ maxLen) (hp : p.size ≤ maxLen) (ho : o.size ≤ maxLen) :
    Calls Try.prog 11 #[.slice a len cap, .agg #[.string s, .string p, .string o]] w fun e w' => e = .returned (.bool true) ∧ Below w.heap.size w w' := by
  unfold maxLen at hs hp ho
  have hlen : len ≤ 9223372036854775807 := by
    rcases h with ⟨_, rfl, _, _⟩ | ⟨_, _, h1, h2, _⟩
    · omega
    · unfold maxLen at h2; omega
  have HM := Lib.hid h.small
  have HL := Lib.hid h.len
  have BW := (Below.refl w.heap.size w).alloc (Nat.le_refl _) (.cells #[.string s, .string p, .string o] 51)
  have h0 := h.next BW
  have X0 := Box.new w (.string s) (.string p) (.string o) 51
  clear h
  go_enter Try.func11, Try.ntmps11
  go_wp2_with fail
  generalize w.alloc (.cells #[.string s, .string p, .string o] 51) = W at h0 X0 BW ⊢
  refine (szPairS a len cap ts _ h0 1048576 (by omega) (by omega) hlen).mono ?_
  rintro e w1 ⟨n, rfl, hn, B1⟩
  rcases hn with rfl | ⟨hn0, hn1, hsm⟩
  · go_wp2_with fail
    go_ret
    exact ⟨rfl, BW.trans (B1.mono BW.size)⟩
  have hS : SmP ts := fun t ht => by have := hsm.2 t ht; omega
  have hl1 : len ≤ 1048576 := hsm.1
  have hn2 : ¬ n < 0 := by omega
  have SZ := szTri s p o n (by omega) (by omega) hs hp ho
  obtain ⟨c0, c1, c2⟩ := (X0.next B1).cells
  clear hsm
  by_cases hbt : (s.size : Int) + p.size + o.size ≤ n
  rotate_left
  · rw [szT_no hbt] at SZ
    have D := Lib.hid SZ
    clear SZ
    go_wp2_with fail
    refine (D.out _).mono ?_
    rintro e w2 ⟨rfl, hb2⟩
    go_wp2_with fail
    go_ret
    exact ⟨rfl, BW.trans ((B1.trans (hb2.mono B1.size)).mono BW.size)⟩
  rw [szT_yes hbt] at SZ
  have D := Lib.hid SZ
  have hbt2 : ¬ n - s.size - p.size - o.size < 0 := by omega
  obtain ⟨x, y, z, hV⟩ := filledV_agg ts s p o
  have C1 := fun x y w hi => specFilled x len y ts s p o w hi hS hl1
  have C2 := fun x y w hi => implFilled x len y ts s p o w hi hS hl1
  simp only [hV] at C1 C2
  have HC1 := Lib.hid C1
  have HC2 := Lib.hid C2
  clear SZ C1 C2 hbt hn0 hn1 hV hS
  go_wp2_with fail
  refine (D.out _).mono ?_
  rintro e w2 ⟨rfl, hb2⟩
  have B2 := B1.trans (hb2.mono B1.size)
  clear hb2 B1 c0 c1 c2 D
  have B2d := B2.drew
  have h2d := h0.next B2d
  obtain ⟨c0, c1, c2⟩ := (X0.next B2).cells
  have BB2 := Lib.hid B2d
  have BBN := Lib.hid B2
  have H0 := Lib.hid h0
  have X00 := Lib.hid X0
  clear B2 B2d h0 X0
  go_wp2_with fail
  go_region_held3 (fun w' => w'.cell? ⟨w.heap.size, 0, none⟩ = some (.string s) ∧ w'.cell? ⟨w.heap.size, 1, none⟩ = some (.string p) ∧ w'.cell? ⟨w.heap.size, 2, none⟩ = some (.string o))
    (first | with_reducible exact (X00.out.next B55.out).cells | with_reducible exact ((X00.out.next B55.out).alloc _).cells | with_reducible exact (X00.out.next (below_set3 B55.out _ ZL _ _ _)).cells | with_reducible exact (X00.out.next B44.out).cells | with_reducible exact ((X00.out.next B44.out).alloc _).cells | with_reducible exact (X00.out.next B33.out).cells | with_reducible exact ((X00.out.next B33.out).alloc _).cells | with_reducible exact (X00.out.next BB2.out).cells | with_reducible exact ((X00.out.next BBN.out).alloc _).drew.cells)
    (first
      | (go_at_call 48; first | refine (toPairS a len cap ts _ h2d hl1).mono ?_ | refine (toPairS a len cap ts _ (IsPres.next H0.out (BBN.out.alloc BBN.out.size (.cells #[.string ⟨#[]⟩, .string ⟨#[]⟩, .string ⟨#[]⟩] 34)).drew) hl1).mono ?_
         rintro e w3 ⟨v, rfl, o3, hb3⟩; obtain ⟨x3, y3, rfl, i3⟩ := OwnP.is o3 HM.out; rw [HL.out] at i3 ⊢
         have B33 : Hid (Below W.heap.size W w3) := Lib.hid (by (first | exact BB2.out.trans (hb3.mono BB2.out.size) | exact (BBN.out.alloc BBN.out.size (.cells #[.string ⟨#[]⟩, .string ⟨#[]⟩, .string ⟨#[]⟩] 34)).drew.trans (hb3.mono (BBN.out.alloc BBN.out.size (.cells #[.string ⟨#[]⟩, .string ⟨#[]⟩, .string ⟨#[]⟩] 34)).drew.size)))
         (first | (have Z2 := Box.next Z hb3; clear Z; have Z := Z2; clear Z2) | (have Z := Box.next (Box.drew (Box.new w2 (.string ⟨#[]⟩) (.string ⟨#[]⟩) (.string ⟨#[]⟩) 34)) hb3; have ZL := BBN.out.size) | skip))
      | (go_at_call 37; refine (toTri s p o _).mono ?_; rintro e w4 ⟨rfl, hb4⟩
         have i4 : IsPres w4 x3 len y3 ts := by (first | exact IsPres.next i3 hb4 | exact IsPres.next (IsPres.next i3 ((Below.refl _ _).alloc (Nat.le_refl _) (.cells #[.string ⟨#[]⟩, .string ⟨#[]⟩, .string ⟨#[]⟩] 34))) hb4)
         have B44 : Hid (Below W.heap.size W w4) := Lib.hid (by (first | exact B33.out.trans (hb4.mono B33.out.size) | exact (B33.out.alloc B33.out.size (.cells #[.string ⟨#[]⟩, .string ⟨#[]⟩, .string ⟨#[]⟩] 34)).trans (hb4.mono (size_al B33.out.size))))
         (first | (have Z2 := Box.next Z hb4; clear Z; have Z := Z2; clear Z2) | (have Z := Box.next (Box.new _ (.string ⟨#[]⟩) (.string ⟨#[]⟩) (.string ⟨#[]⟩) 34) hb4; have ZL := B33.out.size) | skip))
      | (go_at_call 51; first | refine (HC1.out x3 y3 _ i4).mono ?_ | refine (HC1.out x3 y3 _ (IsPres.next i4 ((Below.refl _ _).alloc (Nat.le_refl _) (.cells #[.string ⟨#[]⟩, .string ⟨#[]⟩, .string ⟨#[]⟩] 34)))).mono ?_
         rintro e w5 ⟨rfl, hb5⟩
         have B55 : Hid (Below W.heap.size W w5) := Lib.hid (by (first | exact B44.out.trans (hb5.mono B44.out.size) | exact (B44.out.alloc B44.out.size (.cells #[.string ⟨#[]⟩, .string ⟨#[]⟩, .string ⟨#[]⟩] 34)).trans (hb5.mono (size_al B44.out.size))))
         (first | (have Z2 := Box.next Z hb5; clear Z; have Z := Z2; clear Z2) | (have Z := Box.next (Box.new _ (.string ⟨#[]⟩) (.string ⟨#[]⟩) (.string ⟨#[]⟩) 34) hb5; have ZL := B44.out.size) | skip)
         (first | (obtain ⟨z0, z1, z2⟩ := Z.cells; obtain ⟨q0, q1, q2⟩ := Z.free) | skip)))
  all_goals
    first
      | (have ZZ := box_set3 Z (.string x) (.string y) (.string z); have BZ := Lib.hid (below_set3 B55.out _ ZL (.string x) (.string y) (.string z)); clear Z ZL)
      | (have ZZ := Box.new w5 (.string x) (.string y) (.string z) 34; have BZ := Lib.hid (B55.out.alloc B55.out.size (.cells #[.string x, .string y, .string z] 34)))
    clear c0 c1 c2 h2d hb3 hb4 hb5 i3 i4 o3 BB2 BBN B33 B44 B55
    go_wp2_with fail
    refine (toPairS a len cap ts _ (IsPres.next H0.out BZ.out) hl1).mono ?_
    rintro e w7 ⟨v, rfl, o7, hb7⟩
    obtain ⟨x7, y7, rfl, i7⟩ := OwnP.is o7 HM.out
    rw [HL.out] at i7 ⊢
    have Z7 := ZZ.next hb7
    have B7 := Lib.hid (BZ.out.trans (hb7.mono BZ.out.size))
    obtain ⟨c0, c1, c2⟩ := (X00.out.next B7.out).cells
    clear hb7 BZ ZZ o7
    go_wp2_with fail
    refine (toTri s p o _).mono ?_
    rintro e w8 ⟨rfl, hb8⟩
    have i8 := IsPres.next i7 hb8
    have Z8 := Z7.next hb8
    have B8 := Lib.hid (B7.out.trans (hb8.mono B7.out.size))
    clear hb8 c0 c1 c2 i7 Z7 B7
    go_wp2_with fail
    refine (HC2.out x7 y7 _ i8).mono ?_
    rintro e w9 ⟨rfl, hb9⟩
    have i9 := IsPres.next i8 hb9
    have Z9 := Z8.next hb9
    have B9 := Lib.hid (B8.out.trans (hb9.mono B8.out.size))
    have BA := Lib.hid (B9.out.alloc B9.out.size (.cells #[.string x, .string y, .string z] 34))
    have iA := IsPres.next i9 ((Below.refl _ _).alloc (Nat.le_refl _) (.cells #[.string x, .string y, .string z] 34))
    obtain ⟨d0, d1, d2⟩ := (Z9.alloc (.cells #[.string x, .string y, .string z] 34)).cells
    clear hb9 i8 Z8 B8
    go_wp2_with fail
    refine (eqTri x y z _).mono ?_
    rintro e w10 ⟨rfl, hb10⟩
    have i10 := IsPres.next iA hb10
    have B10 := Lib.hid (BA.out.trans (hb10.mono BA.out.size))
    clear hb10 iA BA B9 i9 Z9 d0 d1 d2
    go_wp2_with fail
    refine (toPairS a len cap ts _ (IsPres.next H0.out B10.out) hl1).mono ?_
    rintro e w11 ⟨v, rfl, o11, hb11⟩
    obtain ⟨x11, y11, rfl, i11⟩ := OwnP.is o11 HM.out
    rw [HL.out] at i11 ⊢
    have i12 := IsPres.next i10 hb11
    have B11 := Lib.hid (B10.out.trans (hb11.mono B10.out.size))
    clear hb11 i10 B10 o11
    go_wp2_with fail
    refine (eqPairS x7 x11 len y7 len y11 ts _ i12 i11 hl1).mono ?_
    rintro e w12 ⟨rfl, hb12⟩
    have B12 := B11.out.trans (hb12.mono B11.out.size)
    clear hb12 i11 i12 B11
    go_wp2_with fail
    go_ret
    exact ⟨rfl, BW.trans (B12.mono BW.size)⟩
end fnExactFilled
end Go.Proofs.Ytinmjbgljgljkab
