/- The walk of FnExactReadFile. -/
import Derived.Test.YtamnlifdfhmbnaaG00
import Derived.Test.YtamnlifdfhmbnaaG19
import Derived.Test.YtamnlifdfhmbnaaG18
import Derived.Test.YtamnlifdfhmbnaaG17
import Derived.Deep.RegionHeld3
namespace Go.Proofs.Ytamnlifdfhmbnaa
open Go.RowKit Go.WideShapes
namespace fnExactReadFile
set_option maxRecDepth 100000 in
set_option maxHeartbeats 6400000 in
theorem walk (a00 a01 a02 : Option Addr) (n00 n01 n02 c00 c01 c02 : Nat) (t00 t01 : List Pre2) (t02 : List OpV) (sN : ByteArray) (w : World) (h0 : IsDk w a00 a01 a02 n00 n01 n02 c00 c01 c02 t00 t01 t02) (hsN : sN.size ≤ maxLen) :
    Calls Try.prog 10 #[.agg #[.slice a00 n00 c00, .slice a01 n01 c01, .slice a02 n02 c02], .string sN] w fun e w' => e = .returned (.bool true) ∧ Below w.heap.size w w' := by
  obtain ⟨W1, hW1⟩ : ∃ W, w.alloc (.cells #[.slice a00 n00 c00, .slice a01 n01 c01, .slice a02 n02 c02] 50) = W := ⟨_, rfl⟩
  have z1 : W1.heap.size = w.heap.size + 1 := by rw [← hW1]; simp
  have B0 : Hid (Below w.heap.size w W1) := Lib.hid (by rw [← hW1]; exact ((Below.refl w.heap.size w).alloc (Nat.le_refl _) _))
  have A00 : Hid (Holds (w.heap.size) (w.heap.size + 1) W1 (Cells (w.heap.size) #[.slice a00 n00 c00, .slice a01 n01 c01, .slice a02 n02 c02] 50)) := Lib.hid (by
    have := (cells_new w #[.slice a00 n00 c00, .slice a01 n01 c01, .slice a02 n02 c02] 50)
    rw [hW1] at this; exact this)
  have HW := Lib.hid (hW1)
  clear hW1 z1
  have H0 := Lib.hid h0
  have HL0 := Lib.hid (And.intro h0.1.len (And.intro h0.2.1.len h0.2.2.len))
  have HM0 : Hid (SmAllPrFi t00 ∧ SmAllPrFi t01 ∧ SmAllOp t02) := Lib.hid ⟨IsPres.smallFi h0.1, IsPres.smallFi h0.2.1, h0.2.2.small⟩
  clear h0
  unfold maxLen at hsN
  by_cases hbig_sN : (1048576 : Int) < sN.size
  · go_enter Try.func10, Try.ntmps10
    go_wp2_with fail
    go_ret
    rw [HW.out]
    exact ⟨rfl, B0.out⟩
  have hl_sN : sN.size ≤ 1048576 := by omega
  go_enter Try.func10, Try.ntmps10
  obtain ⟨v0, u0, z0⟩ := A00.out.now.treDk
  go_wp2_with fail
  rw [HW.out]
  refine (szDk a00 a01 a02 n00 n01 n02 c00 c01 c02 t00 t01 t02 _ (H0.out.next B0.out) 1048576 (by omega) (by omega)).mono ?_
  rintro e w1 ⟨g0, rfl, hg, hb⟩
  clear v0 u0 z0
  have B1 := Lib.hid (B0.out.trans (hb.mono B0.out.size))
  have A01 := Lib.hid (A00.out.next hb)
  clear B0 A00
  clear hb
  rcases hg with rfl | ⟨e0, f0, ps0, qs0, rs0⟩
  · go_wp2_with fail
    go_ret
    exact ⟨rfl, B1.out⟩
  have S0 : Hid (SmDk t00 t01 t02) := Lib.hid ⟨ps0.2, qs0.2, rs0.2⟩
  have l0 : n00 ≤ 1048576 ∧ n01 ≤ 1048576 ∧ n02 ≤ 1048576 := ⟨ps0.1, qs0.1, rs0.1⟩
  clear ps0 qs0 rs0
  have d0 : ¬ g0 < 0 := by omega
  have C1 := fun x0 y0 x1 y1 x2 y2 W hi => specReadFile x0 x1 x2 n00 n01 n02 y0 y1 y2 t00 t01 t02 sN W hi S0.out l0
  have C2 := fun x0 y0 x1 y1 x2 y2 W hi => implReadFile x0 x1 x2 n00 n01 n02 y0 y1 y2 t00 t01 t02 sN W hi S0.out l0
  unfold ReadPost at C1 C2
  generalize (readO t00 t01 t02 sN).getD ByteArray.empty = RT at C1 C2
  generalize (readO t00 t01 t02 sN).isSome = bb at C1 C2
  have HC1 := Lib.hid C1
  have HC2 := Lib.hid C2
  clear C1 C2
  clear e0 f0
  obtain ⟨v0, u0, z0⟩ := A01.out.now.treDk
  go_wp2_with fail
  refine (exToDk a00 a01 a02 n00 n01 n02 c00 c01 c02 t00 t01 t02 _ (H0.out.next B1.out) l0 HL0.out).mono ?_
  rintro e w2 ⟨x00_S, y00_S, x01_S, y01_S, x02_S, y02_S, rfl, hh, hb⟩
  clear v0 u0 z0
  have B2 := Lib.hid (B1.out.trans (hb.mono B1.out.size))
  have A02 := Lib.hid (A01.out.next hb)
  clear B1 A01
  have Q0S2 := Lib.hid (hh)
  clear hb hh
  go_wp2_with fail
  refine (HC1.out x00_S y00_S x01_S y01_S x02_S y02_S _ (Q0S2.out.now.readDk HM0.out HL0.out)).mono ?_
  rintro e w3 ⟨rfl, hb⟩
  clear Q0S2
  have B3 := Lib.hid (B2.out.trans (hb.mono B2.out.size))
  have A03 := Lib.hid (A02.out.next hb)
  clear B2 A02
  clear hb
  obtain ⟨v0, u0, z0⟩ := A03.out.now.treDk
  go_wp2_with fail
  have LEA0_X0 := Lib.hid A03.out.le
  have LEw_X0 := Lib.hid B3.out.size
  refine (exToDk a00 a01 a02 n00 n01 n02 c00 c01 c02 t00 t01 t02 _ (H0.out.next B3.out) l0 HL0.out).mono ?_
  rintro e w4 ⟨x00_x, y00_x, x01_x, y01_x, x02_x, y02_x, rfl, hh, hb⟩
  clear v0 u0 z0
  have B4 := Lib.hid (B3.out.trans (hb.mono B3.out.size))
  have A04 := Lib.hid (A03.out.next hb)
  clear B3 A03
  have X04 := Lib.hid (hh)
  clear hb hh
  have LEA0_KX0 := Lib.hid A04.out.le
  have LEX0_KX0 := Lib.hid X04.out.le
  have B5 := Lib.hid (B4.out.alloc B4.out.size (.cells #[.slice x00_x n00 y00_x, .slice x01_x n01 y01_x, .slice x02_x n02 y02_x] 27))
  have A05 := Lib.hid (A04.out.alloc (.cells #[.slice x00_x n00 y00_x, .slice x01_x n01 y01_x, .slice x02_x n02 y02_x] 27))
  have X05 := Lib.hid (X04.out.alloc (.cells #[.slice x00_x n00 y00_x, .slice x01_x n01 y01_x, .slice x02_x n02 y02_x] 27))
  clear B4 A04 X04
  have KX05 := Lib.hid (cells_new w4 #[.slice x00_x n00 y00_x, .slice x01_x n01 y01_x, .slice x02_x n02 y02_x] 27)
  obtain ⟨v0, u0, z0⟩ := KX05.out.now.treDk
  go_wp2_with fail
  have HZw5 := Lib.hid (show w4.heap.size ≤ ((w4.alloc (.cells #[.slice x00_x n00 y00_x, .slice x01_x n01 y01_x, .slice x02_x n02 y02_x] 27))).heap.size from by simp)
  generalize (w4.alloc (.cells #[.slice x00_x n00 y00_x, .slice x01_x n01 y01_x, .slice x02_x n02 y02_x] 27)) = w5 at B5 A05 X05 KX05 HZw5 ⊢
  refine (HC2.out x00_x y00_x x01_x y01_x x02_x y02_x _ (X05.out.now.readDk HM0.out HL0.out)).mono ?_
  rintro e w6 ⟨rfl, hb⟩
  clear v0 u0 z0
  have B6 := Lib.hid (B5.out.trans (hb.mono B5.out.size))
  have A06 := Lib.hid (A05.out.next hb)
  have X06 := Lib.hid (X05.out.next hb)
  have KX06 := Lib.hid (KX05.out.next hb)
  clear B5 A05 X05 KX05
  clear hb
  obtain ⟨bf, hbf⟩ : ∃ q : Bool, q = bb := ⟨_, rfl⟩
  have HBF := Lib.hid hbf
  clear hbf
  cases bb
  all_goals
    go_wp2_with fail
    have B7 := Lib.hid B6.out.drew
    have A07 := Lib.hid A06.out.drew
    have X07 := Lib.hid X06.out.drew
    have KX07 := Lib.hid KX06.out.drew
    clear B6 A06 X06 KX06
    go_region_held3 (fun w' => (w'.cell? ⟨w4.heap.size, 0, none⟩ = some (.slice x00_x n00 y00_x) ∧ w'.cell? ⟨w4.heap.size, 1, none⟩ = some (.slice x01_x n01 y01_x) ∧ w'.cell? ⟨w4.heap.size, 2, none⟩ = some (.slice x02_x n02 y02_x)) ∧ (w'.cell? ⟨w.heap.size, 0, none⟩ = some (.slice a00 n00 c00) ∧ w'.cell? ⟨w.heap.size, 1, none⟩ = some (.slice a01 n01 c01) ∧ w'.cell? ⟨w.heap.size, 2, none⟩ = some (.slice a02 n02 c02)))
      (first | with_reducible exact ⟨KX09.out.now.treDk, A09.out.now.treDk⟩ | with_reducible exact ⟨KX08.out.now.treDk, A08.out.now.treDk⟩ | with_reducible exact ⟨KX07.out.now.treDk, A07.out.now.treDk⟩)
      (first | (go_at_call 27; refine (eqDk x00_x x01_x x02_x x00_e x01_e x02_e n00 n01 n02 y00_x y01_x y02_x y00_e y01_e y02_e t00 t01 t02 _ (X08.out.now.readDk HM0.out HL0.out) (E08.out.now.readDk HM0.out HL0.out) l0).mono ?_; rintro e w8 ⟨rfl, hb⟩; clear E08; have B9 := Lib.hid (B8.out.trans (hb.mono B8.out.size)); have A09 := Lib.hid (A08.out.next hb); have X09 := Lib.hid (X08.out.next hb); have KX09 := Lib.hid (KX08.out.next hb); clear B8 A08 X08 KX08; clear hb) | (go_at_call 26; refine (exToDk a00 a01 a02 n00 n01 n02 c00 c01 c02 t00 t01 t02 _ (H0.out.next B7.out) l0 HL0.out).mono ?_; rintro e w7 ⟨x00_e, y00_e, x01_e, y01_e, x02_e, y02_e, rfl, hh, hb⟩; have B8 := Lib.hid (B7.out.trans (hb.mono B7.out.size)); have A08 := Lib.hid (A07.out.next hb); have X08 := Lib.hid (X07.out.next hb); have KX08 := Lib.hid (KX07.out.next hb); clear B7 A07 X07 KX07; have E08 := Lib.hid (hh); clear hb hh))
    go_wp2_with fail
    go_ret
    exact ⟨rfl, B9.out⟩
end fnExactReadFile
end Go.Proofs.Ytamnlifdfhmbnaa
