/- Fired: the program. -/
import Derived.Test.YtiajdnhmjdfeeaaGreatG43
import Derived.Test.YtiajdnhmjdfeeaaGreatG31
import Derived.Test.YtiajdnhmjdfeeaaGreatG42
import Derived.Test.YtiajdnhmjdfeeaaGreatG38
import Derived.Deep.Strs
import Derived.Test.YtiajdnhmjdfeeaaGreatG10
import Derived.Test.YtiajdnhmjdfeeaaGreatG09
namespace Go.Proofs.YtiajdnhmjdfeeaaGreat
open Go.RowKit Go.WideShapes Go.Maps
set_option maxRecDepth 100000 in
set_option maxHeartbeats 6400000 in
theorem implFired (a : Option Addr) (la ca : Nat) (gs : List Tri3) (b : Option Addr) (n c : Nat) (ts : List Tri3) (s p o : ByteArray) (w : World) (ha : IsTris w a la ca gs) (h : IsTris w b n c ts) (hga : SmT gs) (hgb : SmT ts) (hl : la ≤ 1048576) (hn : n ≤ 1048576) (hh : s.size ≤ 1048576 ∧ p.size ≤ 1048576 ∧ o.size ≤ 1048576) :
    Calls Tryz.prog 35 #[.slice a la ca, .agg #[.slice b n c, .string s, .string p, .string o]] w (ResPost (firedO gs ts (s, p, o)) w) := by
  have hb0 : Below w.heap.size w (w.alloc (.cells #[.slice b n c, .string s, .string p, .string o] 67)) := (Below.refl w.heap.size w).alloc (Nat.le_refl _) _
  have B0 := Lib.hid hb0
  have X0 := Lib.hid (Box4.new w (.slice b n c) (.string s) (.string p) (.string o) 67)
  have I0 := Lib.hid (h.next hb0)
  have A0 := Lib.hid (ha.next hb0)
  have HH := Lib.hid hh
  have HGA := Lib.hid hga
  have HGB := Lib.hid hgb
  have HLA := Lib.hid ha.len
  have HLB := Lib.hid h.len
  obtain ⟨q, hq⟩ : ∃ q, firedO gs ts (s, p, o) = q := ⟨_, rfl⟩
  have HQ := Lib.hid hq
  rw [hq]
  clear hb0 h ha hga hgb hh hq
  cases hr : ruleOk ts (s, p, o)
  · have HF : Hid (q = none) := Lib.hid (by rw [← HQ.out]; exact firedO_r hr)
    have Cr := fun (W : World) (hi : IsTris W b n c ts) => implRuleOk b n c ts s p o W hi HGB.out.sm hn (by have := HH.out; omega) (by have := HH.out; omega) (by have := HH.out; omega)
    rw [hr] at Cr
    have HR := Lib.hid Cr
    clear Cr
    clear hr
    go_enter Tryz.func35, Tryz.ntmps35
    obtain ⟨xv0, xv1, xv2, xv3⟩ := X0.out.cells
    go_wp2_with fail
    refine (HR.out _ I0.out).mono ?_
    rintro e w1 ⟨rfl, hb⟩
    clear xv0 xv1 xv2 xv3
    have B1 := Lib.hid (B0.out.trans (hb.mono B0.out.size))
    have X1 := Lib.hid (X0.out.next hb)
    have I1 := Lib.hid (I0.out.next hb)
    have A1 := Lib.hid (A0.out.next hb)
    clear hb B0 X0 I0 A0
    obtain ⟨xv0, xv1, xv2, xv3⟩ := X1.out.cells
    go_wp2_with fail
    go_ret2
    rw [HF.out]
    exact ResPost.no B1.out
  have Cr := fun (W : World) (hi : IsTris W b n c ts) => implRuleOk b n c ts s p o W hi HGB.out.sm hn (by have := HH.out; omega) (by have := HH.out; omega) (by have := HH.out; omega)
  rw [hr] at Cr
  have HR := Lib.hid Cr
  clear Cr
  have HBG := Lib.hid (ruleOk_bgp hr)
  obtain ⟨rs, hrs⟩ : ∃ q, solR gs ts = q := ⟨_, rfl⟩
  have HRS := Lib.hid hrs
  have HSM : Hid (SmR rs) := Lib.hid (by rw [← hrs]; exact solR_sm HGA.out HGB.out)
  have HRL : Hid (rs.length ≤ 300) := Lib.hid (by rw [← hrs]; exact solR_len)
  have Cs := fun (W : World) (hx : IsTris W a la ca gs) (hy : IsTris W b n c ts) => implSolutions a b la ca n c gs ts W hx hy HGA.out HGB.out
  rw [hrs] at Cs
  clear hrs
  cases hs : solOk gs ts
  · have HF : Hid (q = none) := Lib.hid (by rw [← HQ.out]; exact firedO_s hs)
    rw [hs] at Cs
    have HS := Lib.hid Cs
    clear Cs hs hr
    go_enter Tryz.func35, Tryz.ntmps35
    obtain ⟨xv0, xv1, xv2, xv3⟩ := X0.out.cells
    go_wp2_with fail
    refine (HR.out _ I0.out).mono ?_
    rintro e w1 ⟨rfl, hb⟩
    clear xv0 xv1 xv2 xv3
    have B1 := Lib.hid (B0.out.trans (hb.mono B0.out.size))
    have X1 := Lib.hid (X0.out.next hb)
    have I1 := Lib.hid (I0.out.next hb)
    have A1 := Lib.hid (A0.out.next hb)
    clear hb B0 X0 I0 A0
    obtain ⟨xv0, xv1, xv2, xv3⟩ := X1.out.cells
    go_wp2_with fail
    refine (HS.out _ A1.out I1.out).mono ?_
    rintro e w2 ⟨v, rfl, ho, hb⟩
    clear xv0 xv1 xv2 xv3
    have B2 := Lib.hid (B1.out.trans (hb.mono B1.out.size))
    have X2 := Lib.hid (X1.out.next hb)
    have I2 := Lib.hid (I1.out.next hb)
    have A2 := Lib.hid (A1.out.next hb)
    clear hb B1 X1 I1 A1
    clear ho
    obtain ⟨xv0, xv1, xv2, xv3⟩ := X2.out.cells
    go_wp2_with fail
    go_ret2
    rw [HF.out]
    exact ResPost.no B2.out
  · have HF : Hid (q = some (headsL gs (s, p, o) rs)) := Lib.hid (by rw [← HQ.out, ← HRS.out]; exact firedO_y hr hs)
    have HOK : Hid (∀ r ∈ rs, rowOk r = true) := Lib.hid (by rw [← HRS.out]; exact solR_rowOk hs)
    have HL8 : Hid (la ≤ 80) := Lib.hid (by rw [← HLA.out]; exact (graphOk_iff.1 (solOk_g hs)).1)
    rw [hs] at Cs
    have HS := Lib.hid Cs
    clear Cs hs hr
    go_enter Tryz.func35, Tryz.ntmps35
    obtain ⟨xv0, xv1, xv2, xv3⟩ := X0.out.cells
    go_wp2_with fail
    refine (HR.out _ I0.out).mono ?_
    rintro e w1 ⟨rfl, hb⟩
    clear xv0 xv1 xv2 xv3
    have B1 := Lib.hid (B0.out.trans (hb.mono B0.out.size))
    have X1 := Lib.hid (X0.out.next hb)
    have I1 := Lib.hid (I0.out.next hb)
    have A1 := Lib.hid (A0.out.next hb)
    clear hb B0 X0 I0 A0
    obtain ⟨xv0, xv1, xv2, xv3⟩ := X1.out.cells
    go_wp2_with fail
    refine (HS.out _ A1.out I1.out).mono ?_
    rintro e w2 ⟨v, rfl, ho, hb⟩
    clear xv0 xv1 xv2 xv3
    have B2 := Lib.hid (B1.out.trans (hb.mono B1.out.size))
    have X2 := Lib.hid (X1.out.next hb)
    have I2 := Lib.hid (I1.out.next hb)
    have A2 := Lib.hid (A1.out.next hb)
    clear hb B1 X1 I1 A1
    obtain ⟨rx, rc, rfl, ri⟩ := ho.is (fun r hr t ht => by have := HSM.out r hr t ht; unfold maxLen; omega)
    clear ho
    obtain ⟨rn, hrn⟩ : ∃ n, rs.length = n := ⟨_, rfl⟩
    have hrl := HRL.out
    rw [hrn] at ri hrl ⊢
    clear hrn
    have Y2 := Lib.hid ri
    clear ri
    obtain ⟨xv0, xv1, xv2, xv3⟩ := X2.out.cells
    go_wp2_with fail
    refine (implMadeBy a la ca gs rx rn rc rs b n c s p o _ A2.out Y2.out HOK.out HSM.out hrl (by have := HL8.out; omega) HH.out).mono ?_
    rintro e wz ⟨v, rfl, ho, hb⟩
    clear xv0 xv1 xv2 xv3
    have BZ := Lib.hid (B2.out.trans (hb.mono B2.out.size))
    have HO := Lib.hid (own_base ho B2.out.size)
    clear hb ho
    go_wp2_with fail
    go_ret2
    rw [HF.out]
    exact ResPost.yes HO.out BZ.out
end Go.Proofs.YtiajdnhmjdfeeaaGreat
/- A rule that came in: what it holds; its size; a copy of it; two rules alike. -/
namespace Go.Proofs.YtiajdnhmjdfeeaaGreat
open Go.ChangeShapes Go.WideShapes Go.ChangeAt Go.RowKit
namespace RulK
theorem open_tris_one {H : Type} {enc : TypeId × Value → H} {P : Program} {w : World} {base : Nat} {spare : Nat → Bool} {held : Bool} {t e : TypeId} {f0 f1 f2 : Field} {fuel : Nat} {c : Value} {x : DataW H × List MemPlace}
    (ht : P.underlying t = some (.slice e)) (he : P.underlying e = some (.struct #[f0, f1, f2])) (hC : P.cellsOf e = 3)
    (h0 : P.underlying f0.type = some .string ∧ f0.offset = 0 ∧ P.cellsOf f0.type = 1) (h1 : P.underlying f1.type = some .string ∧ f1.offset = 1 ∧ P.cellsOf f1.type = 1) (h2 : P.underlying f2.type = some .string ∧ f2.offset = 2 ∧ P.cellsOf f2.type = 1)
    (h : DataW.trod enc P w base spare held fuel t [c] = some x) : ∃ a len cap ts, c = .slice a len cap ∧ IsTris w a len cap ts := by
  have h' := h
  rcases Deep.open_slice ht h with ⟨hcs, _⟩ | ⟨x, len', cap', m, n, D, Pl, hcs, _⟩
  · obtain rfl : c = .slice none 0 0 := by simpa using hcs
    obtain ⟨ts, hts⟩ := open_tris ht he hC h0 h1 h2 h'
    exact ⟨_, _, _, ts, rfl, hts⟩
  · obtain rfl : c = .slice (some x) len' cap' := by simpa using hcs
    obtain ⟨ts, hts⟩ := open_tris ht he hC h0 h1 h2 h'
    exact ⟨_, _, _, ts, rfl, hts⟩
theorem tris_maxl {w : World} {a : Option Addr} {len cap : Nat} {ts : List Tri3} (h : IsTris w a len cap ts) : len ≤ 9223372036854775807 := by
  rcases h with ⟨_, rfl, _, _⟩ | ⟨_, _, h1, h2, _⟩
  · omega
  · unfold maxLen at h2; omega
theorem own_set {B : Nat} {w : World} {v : Value} {ts : List Tri3} (h : OwnT B w v ts) {g : Nat} (hg : g < B) (j : Nat) (u : Value) : OwnT B (w.setCell ⟨g, j, none⟩ u) v ts :=
  World.ownsRow.kept h (grown_set (World.grownBy.refl w (some g)) j u) (by
    rcases hv : v.ownBlock with _ | i
    · exact .inl rfl
    · exact .inr (fun e => by cases e; have := (World.ownsRow.lt h g hv).1; omega))
theorem own_slice {B : Nat} {w : World} {v : Value} {ts : List Tri3} (h : OwnT B w v ts) : ∃ a n c, v = .slice a n c := by
  rcases h.2 with ⟨rfl, _⟩ | ⟨g, c, cur, rfl, _⟩
  · exact ⟨_, _, _, rfl⟩
  · exact ⟨_, _, _, rfl⟩
theorem below_s3 {B : Nat} {w w' : World} (h : Below B w w') (g : Nat) (hg : B ≤ g) (x y z : Value) : Below B w (((w'.setCell ⟨g, 0, none⟩ x).setCell ⟨g, 1, none⟩ y).setCell ⟨g, 2, none⟩ z) :=
  Below.setCell (Below.setCell (Below.setCell h (p := ⟨g, 0, none⟩) hg x) (p := ⟨g, 1, none⟩) hg y) (p := ⟨g, 2, none⟩) hg z
end RulK
theorem open_rule {H : Type} {enc : TypeId × Value → H} {P : Program} {w : World} {base : Nat} {spare : Nat → Bool} {held : Bool} {r : Reach} {b0 : Nat} {T tS tT : TypeId} {g0 g1 : Field} {f0 f1 f2 : Field} {v : Value} {d : DataW H} {p : List MemPlace}
    (hT : P.underlying T = some (.struct #[g0, g1])) (cT : P.cellsOf T = 4) (hg0 : g0.type = tS ∧ g0.offset = 0 ∧ P.cellsOf tS = 1) (hg1 : g1.type = tT ∧ g1.offset = 1 ∧ P.cellsOf tT = 3)
    (ht : P.underlying tS = some (.slice tT)) (he : P.underlying tT = some (.struct #[f0, f1, f2]))
    (h0 : P.underlying f0.type = some .string ∧ f0.offset = 0 ∧ P.cellsOf f0.type = 1) (h1 : P.underlying f1.type = some .string ∧ f1.offset = 1 ∧ P.cellsOf f1.type = 1) (h2 : P.underlying f2.type = some .string ∧ f2.offset = 2 ∧ P.cellsOf f2.type = 1)
    (hv : Value.okWide P w r b0 T v) (h : DataW.Trod enc P w base spare held T v d p) :
    ∃ a len cap ts s q o, v = .agg #[.slice a len cap, .string s, .string q, .string o] ∧ IsTris w a len cap ts ∧ s.size ≤ maxLen ∧ q.size ≤ maxLen ∧ o.size ≤ maxLen := by
  obtain ⟨cs, rfl, hsz⟩ := okWide_struct hT hv
  obtain ⟨fuel, hf⟩ := h
  obtain ⟨y0, y1, n, hx, _, k0, k1⟩ := trod_struct2 hT hf
  rw [hg0.1, hg0.2.1, hg0.2.2] at k0
  rw [hg1.1, hg1.2.1, hg1.2.2] at k1
  obtain ⟨z0, z1, z2, m, hz, _, j0, j1, j2⟩ := Deep.trod_struct3 he k1
  rw [h0.2.1, h0.2.2] at j0
  rw [h1.2.1, h1.2.2] at j1
  rw [h2.2.1, h2.2.2] at j2
  have hsz' : cs.toList.length = 4 := by rw [cT] at hsz; simpa using hsz
  obtain ⟨l⟩ := cs
  simp only [Value.cells] at k0 j0 j1 j2 hsz'
  match l, hsz', k0, j0, j1, j2 with
  | [c0, c1, c2, c3], _, k0, j0, j1, j2 =>
    simp at k0 j0 j1 j2
    obtain ⟨a, len, cap, ts, rfl, hts⟩ := RulK.open_tris_one ht he hg1.2.2 h0 h1 h2 k0
    obtain ⟨s, e0, _, w0⟩ := DataW.trod_string h0.1 j0
    obtain ⟨q, e1, _, w1⟩ := DataW.trod_string h1.1 j1
    obtain ⟨o, e2, _, w2⟩ := DataW.trod_string h2.1 j2
    simp only [List.cons.injEq, and_true] at e0 e1 e2
    subst e0 e1 e2
    exact ⟨_, _, _, ts, s, q, o, rfl, hts, w0, w1, w2⟩
theorem ownT_isN {B : Nat} {w : World} {v : Value} {ts : List Tri3} {n : Nat} (h : OwnT B w v ts) (m : ∀ t ∈ ts, t.1.size ≤ maxLen ∧ t.2.1.size ≤ maxLen ∧ t.2.2.size ≤ maxLen) (l : ts.length = n) : ∃ a c, v = .slice a n c ∧ IsTris w a n c ts := by
  subst l; exact h.is m
def SzPostR (left : Int) (n : Nat) (ts : List Tri3) (s p o : ByteArray) (w : World) (e : Ending) (w' : World) : Prop :=
  ∃ m : Int, e = .returned (.int .i64 m) ∧ (m = -1 ∨ (0 ≤ m ∧ Small n ts ∧ (s.size : Int) + p.size + o.size ≤ left)) ∧ Below w.heap.size w w'
set_option maxRecDepth 100000 in
set_option maxHeartbeats 1600000 in
theorem szRule (a : Option Addr) (n c : Nat) (ts : List Tri3) (s p o : ByteArray) (w : World) (h : IsTris w a n c ts) (hs : s.size ≤ maxLen) (hp : p.size ≤ maxLen) (ho : o.size ≤ maxLen) (left : Int) (h0 : 0 ≤ left) (h1 : left ≤ 1048576) :
    Calls Tryz.prog 32 #[.agg #[.slice a n c, .string s, .string p, .string o], .int .i64 left] w (SzPostR left n ts s p o w) := by
  have B0 := (Below.refl w.heap.size w).alloc (Nat.le_refl _) (.cells #[.slice a n c, .string s, .string p, .string o] 61)
  have X0 := Box4.new w (.slice a n c) (.string s) (.string p) (.string o) 61
  have HH := Lib.hid h
  have m1 := RulK.tris_maxl h
  obtain ⟨y0, y1, y2, y3⟩ := X0.cells
  unfold maxLen at hs hp ho
  clear h
  go_enter Tryz.func32, Tryz.ntmps32
  go_wp2_with fail
  refine (szTriS a n c ts _ (HH.out.next B0) left h0 h1 m1).mono ?_
  rintro e w1 ⟨k, rfl, hk, hb⟩
  have B1 := B0.trans (hb.mono B0.size)
  have X1 := X0.next hb
  clear hb B0 X0 y0 y1 y2 y3
  rcases hk with rfl | ⟨p0, p1, ps⟩
  · go_wp2_with fail
    go_ret
    exact ⟨-1, rfl, .inl rfl, B1⟩
  have PS := Lib.hid ps
  have p2 : ¬ k < 0 := by omega
  clear ps
  obtain ⟨y0, y1, y2, y3⟩ := X1.cells
  have SZ := szTri s p o k p0 (by omega) hs hp ho
  by_cases g : (s.size : Int) + p.size + o.size ≤ k
  · rw [szT_yes g] at SZ
    have G := Lib.hid (show (s.size : Int) + p.size + o.size ≤ left by omega)
    have q0 : 0 ≤ k - s.size - p.size - o.size := by omega
    have SZ2 := Lib.hid SZ
    clear SZ g hs hp ho
    generalize k - (s.size : Int) - p.size - o.size = q at q0 SZ2
    have q2 : ¬ q < 0 := by omega
    go_wp2_with fail
    refine (SZ2.out _).mono ?_
    rintro e w2 ⟨rfl, hb⟩
    have B2 := B1.trans (hb.mono B1.size)
    clear hb B1 X1 y0 y1 y2 y3
    go_wp2_with fail
    go_ret
    exact ⟨q, rfl, .inr ⟨q0, PS.out, G.out⟩, B2⟩
  · rw [szT_no g] at SZ
    have SZ2 := Lib.hid SZ
    clear SZ g hs hp ho
    go_wp2_with fail
    refine (SZ2.out _).mono ?_
    rintro e w2 ⟨rfl, hb⟩
    have B2 := B1.trans (hb.mono B1.size)
    clear hb B1 X1 y0 y1 y2 y3
    go_wp2_with fail
    go_ret
    exact ⟨-1, rfl, .inl rfl, B2⟩
set_option maxRecDepth 100000 in
set_option maxHeartbeats 1600000 in
theorem eqRule (a b : Option Addr) (n c d : Nat) (ts : List Tri3) (s p o : ByteArray) (w : World) (ha : IsTris w a n c ts) (hb : IsTris w b n d ts) (hn : n ≤ 1048576) :
    Calls Tryz.prog 36 #[.agg #[.slice a n c, .string s, .string p, .string o], .agg #[.slice b n d, .string s, .string p, .string o]] w fun e w' => e = .returned (.bool true) ∧ Below w.heap.size w w' := by
  obtain ⟨W1, hW1⟩ : ∃ W, w.alloc (.cells #[.slice a n c, .string s, .string p, .string o] 67) = W := ⟨_, rfl⟩
  obtain ⟨W2, hW2⟩ : ∃ W, W1.alloc (.cells #[.slice b n d, .string s, .string p, .string o] 67) = W := ⟨_, rfl⟩
  have z1 : W1.heap.size = w.heap.size + 1 := by rw [← hW1]; simp
  have B0 : Below w.heap.size w W2 := by
    rw [← hW2, ← hW1]; exact ((Below.refl w.heap.size w).alloc (Nat.le_refl _) _).alloc (by simp) _
  have X0 : Box4 W2 w.heap.size (.slice a n c) (.string s) (.string p) (.string o) 67 := by
    rw [← hW2, ← hW1]; exact (Box4.new w _ _ _ _ _).alloc _
  have Y0 : Box4 W2 (w.heap.size + 1) (.slice b n d) (.string s) (.string p) (.string o) 67 := by
    rw [← hW2, ← z1]; exact Box4.new W1 _ _ _ _ _
  have HH := Lib.hid (And.intro ha hb)
  have HW := Lib.hid (And.intro hW1 hW2)
  obtain ⟨x0, x1, x2, x3⟩ := X0.cells
  obtain ⟨y0, y1, y2, y3⟩ := Y0.cells
  clear ha hb z1 hW1 hW2
  go_enter Tryz.func36, Tryz.ntmps36
  go_wp2_with fail
  rw [HW.out.1, HW.out.2]
  refine (eqTriS a b n c n d ts _ (HH.out.1.next B0) (HH.out.2.next B0) hn).mono ?_
  rintro e w1 ⟨rfl, hb⟩
  have B1 := B0.trans (hb.mono B0.size)
  have X1 := X0.next hb
  have Y1 := Y0.next hb
  clear hb B0 X0 Y0 x0 x1 x2 x3 y0 y1 y2 y3
  obtain ⟨x0, x1, x2, x3⟩ := X1.cells
  obtain ⟨y0, y1, y2, y3⟩ := Y1.cells
  go_wp2_with fail
  refine (eqTri s p o _).mono ?_
  rintro e w2 ⟨rfl, hb⟩
  have B2 := B1.trans (hb.mono B1.size)
  clear hb B1 X1 Y1 x0 x1 x2 x3 y0 y1 y2 y3
  go_wp2_with fail
  go_ret
  exact ⟨rfl, B2⟩
theorem below_s4 {B : Nat} {w w' : World} (h : Below B w w') (g : Nat) (hg : B ≤ g) (x y z u : Value) : Below B w ((((w'.setCell ⟨g, 0, none⟩ x).setCell ⟨g, 1, none⟩ y).setCell ⟨g, 2, none⟩ z).setCell ⟨g, 3, none⟩ u) :=
  (RulK.below_s3 h g hg x y z).setCell (p := ⟨g, 3, none⟩) hg u
set_option maxRecDepth 100000 in
set_option maxHeartbeats 1600000 in
theorem toRule (a : Option Addr) (n c : Nat) (ts : List Tri3) (s p o : ByteArray) (w : World) (h : IsTris w a n c ts) (hn : n ≤ 1048576) :
    Calls Tryz.prog 34 #[.agg #[.slice a n c, .string s, .string p, .string o]] w fun e w' => ∃ v, e = .returned (.agg #[v, .string s, .string p, .string o]) ∧ OwnT w.heap.size w' v ts ∧ Below w.heap.size w w' := by
  obtain ⟨W1, hW1⟩ : ∃ W, w.alloc (.cells #[.slice a n c, .string s, .string p, .string o] 61) = W := ⟨_, rfl⟩
  obtain ⟨W2, hW2⟩ : ∃ W, W1.alloc (.cells #[.slice none 0 0, .string ⟨#[]⟩, .string ⟨#[]⟩, .string ⟨#[]⟩] 67) = W := ⟨_, rfl⟩
  obtain ⟨W3, hW3⟩ : ∃ W, W2.alloc (.cells #[.slice none 0 0, .string ⟨#[]⟩, .string ⟨#[]⟩, .string ⟨#[]⟩] 67) = W := ⟨_, rfl⟩
  have z1 : W1.heap.size = w.heap.size + 1 := by rw [← hW1]; simp
  have z2 : W2.heap.size = w.heap.size + 2 := by rw [← hW2]; simp [z1]
  have z3 : W3.heap.size = w.heap.size + 3 := by rw [← hW3]; simp [z2]
  have B0 : Below w.heap.size w W3 := by
    rw [← hW3, ← hW2, ← hW1]; exact (((Below.refl w.heap.size w).alloc (Nat.le_refl _) _).alloc (by simp) _).alloc (by simp; omega) _
  have X0 : Box4 W3 w.heap.size (.slice a n c) (.string s) (.string p) (.string o) 61 := by
    rw [← hW3, ← hW2, ← hW1]; exact ((Box4.new w _ _ _ _ _).alloc _).alloc _
  have Y0 : Box4 W3 (w.heap.size + 1) (.slice none 0 0) (.string ⟨#[]⟩) (.string ⟨#[]⟩) (.string ⟨#[]⟩) 67 := by
    rw [← hW3, ← hW2, ← z1]; exact (Box4.new W1 _ _ _ _ _).alloc _
  have Z0 : Box4 W3 (w.heap.size + 2) (.slice none 0 0) (.string ⟨#[]⟩) (.string ⟨#[]⟩) (.string ⟨#[]⟩) 67 := by
    rw [← hW3, ← z2]; exact Box4.new W2 _ _ _ _ _
  have HH := Lib.hid h
  have HZ3 := Lib.hid z3
  have HW := Lib.hid (And.intro hW1 (And.intro hW2 hW3))
  obtain ⟨x0, x1, x2, x3⟩ := X0.cells
  clear h z1 z2 z3 hW1 hW2 hW3
  go_enter Tryz.func34, Tryz.ntmps34
  go_wp2_with fail
  rw [HW.out.1, HW.out.2.1, HW.out.2.2]
  refine (toTriS a n c ts _ (HH.out.next B0) hn).mono ?_
  rintro e w1 ⟨v, rfl, o1, hb⟩
  rw [HZ3.out] at o1
  obtain ⟨p1, k1, r1, rfl⟩ := RulK.own_slice o1
  have B1 := B0.trans (hb.mono B0.size)
  have X1 := X0.next hb
  have Y1 := Y0.next hb
  have Z1 := Z0.next hb
  have hwz : w.heap.size + 3 ≤ w1.heap.size := by have := hb.size; rw [HZ3.out] at this; exact this
  clear hb x0 x1 x2 x3 B0 X0 Y0 Z0
  obtain ⟨z0, z1, z2, z3⟩ := Z1.cells
  obtain ⟨f0, f1, f2, f3⟩ := Z1.free
  have B0 := B1.setCell (p := ⟨w.heap.size + 2, 0, none⟩) (by show w.heap.size ≤ w.heap.size + 2; omega) (.slice p1 k1 r1)
  have X0 := X1.far (a := ⟨w.heap.size + 2, 0, none⟩) (by show w.heap.size ≠ w.heap.size + 2; omega) (.slice p1 k1 r1)
  have Y0 := Y1.far (a := ⟨w.heap.size + 2, 0, none⟩) (by show w.heap.size + 1 ≠ w.heap.size + 2; omega) (.slice p1 k1 r1)
  have Z0 := (Z1.set (.slice p1 k1 r1)).1
  have hu1 : w.heap.size + 3 ≤ (w1.setCell ⟨w.heap.size + 2, 0, none⟩ (.slice p1 k1 r1)).heap.size := by simpa [World.setCell] using hwz
  have o1 := RulK.own_set o1 (g := w.heap.size + 2) (by omega) 0 (.slice p1 k1 r1)
  clear B1 X1 Y1 Z1 hwz
  obtain ⟨x0, x1, x2, x3⟩ := X0.cells
  go_wp2_with fail
  generalize w1.setCell ⟨w.heap.size + 2, 0, none⟩ (.slice p1 k1 r1) = u1 at B0 X0 Y0 Z0 hu1 o1 x0 x1 x2 x3 ⊢
  clear z0 z1 z2 z3 f0 f1 f2 f3
  refine (toTri s p o _).mono ?_
  rintro e w2 ⟨rfl, hb⟩
  have B1 := B0.trans (hb.mono B0.size)
  have Y1 := Y0.next hb
  have Z1 := Z0.next hb
  have o2 := own_next o1 (grown_of_below hb)
  clear hb x0 x1 x2 x3 B0 X0 Y0 Z0 o1
  obtain ⟨z0, z1, z2, z3⟩ := Z1.cells
  obtain ⟨f0, f1, f2, f3⟩ := Z1.free
  have B2 : Below w.heap.size w (((w2.setCell ⟨w.heap.size + 2, 1, none⟩ (.string s)).setCell ⟨w.heap.size + 2, 2, none⟩ (.string p)).setCell ⟨w.heap.size + 2, 3, none⟩ (.string o)) :=
    ((B1.setCell (p := ⟨w.heap.size + 2, 1, none⟩) (by show w.heap.size ≤ w.heap.size + 2; omega) (.string s)).setCell (p := ⟨w.heap.size + 2, 2, none⟩) (by show w.heap.size ≤ w.heap.size + 2; omega) (.string p)).setCell (p := ⟨w.heap.size + 2, 3, none⟩) (by show w.heap.size ≤ w.heap.size + 2; omega) (.string o)
  have Y2 := ((Y1.far (a := ⟨w.heap.size + 2, 1, none⟩) (by show w.heap.size + 1 ≠ w.heap.size + 2; omega) (.string s)).far (a := ⟨w.heap.size + 2, 2, none⟩) (by show w.heap.size + 1 ≠ w.heap.size + 2; omega) (.string p)).far (a := ⟨w.heap.size + 2, 3, none⟩) (by show w.heap.size + 1 ≠ w.heap.size + 2; omega) (.string o)
  have Z2 := ((((Z1.set (.string s)).2.1).set (.string p)).2.2.1.set (.string o)).2.2.2
  have o3 := RulK.own_set (RulK.own_set (RulK.own_set o2 (g := w.heap.size + 2) (by omega) 1 (.string s)) (g := w.heap.size + 2) (by omega) 2 (.string p)) (g := w.heap.size + 2) (by omega) 3 (.string o)
  obtain ⟨y0, y1, y2, y3⟩ := Y1.cells
  obtain ⟨q0, q1, q2, q3⟩ := Y1.free
  have HO := Lib.hid o3
  have HB := Lib.hid B2
  clear B1 Y1 Z1 o2 o3 B2 Y2 Z2
  go_wp2_with fail
  refine bodyPost_ret (v := .agg #[.slice p1 k1 r1, .string s, .string p, .string o]) (by simp [results, Tryz.results34, go_sem, *]) rfl ⟨_, rfl, ?_, below_s4 HB.out _ (Nat.le_succ _) _ _ _ _⟩
  exact own_base (RulK.own_set (RulK.own_set (RulK.own_set (RulK.own_set HO.out (by omega) 0 _) (by omega) 1 _) (by omega) 2 _) (by omega) 3 _) (by omega)
end Go.Proofs.YtiajdnhmjdfeeaaGreat
/- The exact laws' steps at a rule, told by where things lie. -/
namespace Go.Proofs.YtiajdnhmjdfeeaaGreat
open Go.RowKit Go.WideShapes
theorem Cells.four {g : Nat} {x y z u : Value} {T : TypeId} {w : World} (h : Cells g #[x, y, z, u] T w) : w.cell? ⟨g, 0, none⟩ = some x ∧ w.cell? ⟨g, 1, none⟩ = some y ∧ w.cell? ⟨g, 2, none⟩ = some z ∧ w.cell? ⟨g, 3, none⟩ = some u := ⟨h.at 0, h.at 1, h.at 2, h.at 3⟩
theorem res_shapeF {r : Option (List Tri3)} {w w' : World} {e : Ending} {N : Nat} (h : ResPost r w e w') (l : (r.getD []).length = N) :
    ∃ a c, e = .returned (.tuple #[.slice a N c, .bool r.isSome]) ∧ Holds w.heap.size w'.heap.size w' (OwnC w.heap.size w'.heap.size (.slice a N c) (r.getD [])) ∧ Below w.heap.size w w' := by
  obtain ⟨v, he, ho, hb⟩ := h
  obtain ⟨x, y, rfl, H⟩ := ownC_shape ho hb l
  exact ⟨_, _, he, H, hb⟩
theorem exSzRu (a : Option Addr) (n c : Nat) (ts : List Tri3) (s p o : ByteArray) (w : World) (h : IsTris w a n c ts) (hs : s.size ≤ maxLen) (hp : p.size ≤ maxLen) (ho : o.size ≤ maxLen) (left : Int) (h0 : 0 ≤ left) (h1 : left ≤ 1048576) :
    Calls Tryz.prog 32 #[.agg #[.slice a n c, .string s, .string p, .string o], .int .i64 left] w fun e w' => ∃ m : Int, e = .returned (.int .i64 m) ∧ (m = -1 ∨ (0 ≤ m ∧ True ∧ Small n ts ∧ (s.size : Int) + p.size + o.size ≤ 1048576)) ∧ Below w.heap.size w w' :=
  (szRule a n c ts s p o w h hs hp ho left h0 h1).mono fun _ _ ⟨m, he, hm, hb⟩ => ⟨m, he, hm.imp id (fun g => ⟨g.1, trivial, g.2.1, by have := g.2.2; omega⟩), hb⟩
theorem exToRu (a : Option Addr) (n c : Nat) (ts : List Tri3) (s p o : ByteArray) (w : World) (h : IsTris w a n c ts) (hn : n ≤ 1048576) (hl : ts.length = n) :
    Calls Tryz.prog 34 #[.agg #[.slice a n c, .string s, .string p, .string o]] w fun e w' => ∃ x y, e = .returned (.agg #[.slice x n y, .string s, .string p, .string o]) ∧ Holds w.heap.size w'.heap.size w' (OwnC w.heap.size w'.heap.size (.slice x n y) ts) ∧ Below w.heap.size w w' :=
  (toRule a n c ts s p o w h hn).mono fun e w' ⟨v, he, ho, hb⟩ => by
    obtain ⟨x, y, rfl, H⟩ := ownC_shape ho hb hl
    exact ⟨x, y, he, H, hb⟩
set_option maxRecDepth 100000 in
set_option maxHeartbeats 1600000 in
theorem exMarkRu {B C : Nat} {a : Option Addr} {n c : Nat} {ts : List Tri3} {w : World} (h : Holds B C w (OwnC B C (.slice a n c) ts)) (hn : n ≤ 1048576) (hl : ts.length = n) (s p o : ByteArray) (k0 : Nat) (hk0 : 0 < k0) (hk1 : k0 ≤ 30000000) :
    Calls Tryz.prog 37 #[.agg #[.slice a n c, .string s, .string p, .string o], .int .i64 k0] w fun e w' => e = .returned (.int .i64 ((k0 + 3 * n : Nat) : Int)) ∧ Holds B C w' (OwnC B C (.slice a n c) (marksK k0 n)) ∧ Turn B C w w' := by
  obtain ⟨o0, s0⟩ := h.now
  have hC := h.le
  have lt0 := fun j hj => World.ownsRow.lt o0 j hj
  have X0 := cells_new w #[.slice a n c, .string s, .string p, .string o] 67
  have T0 : Turn B C w (w.alloc (.cells #[.slice a n c, .string s, .string p, .string o] 67)) := ⟨rfl, rfl, rfl, by simp, fun k hk _ => Below.heap_alloc _ _ _ hk⟩
  have M := markTriK B _ ts _ (own_next o0 (World.grownBy_alloc w (.cells #[.slice a n c, .string s, .string p, .string o] 67) none)) (by omega) k0 hk0 (by omega)
  rw [hl] at M
  have HM := Lib.hid M
  obtain ⟨c0, c1, c2, c3⟩ := X0.now.four
  clear M o0 h hl X0
  go_enter Tryz.func37, Tryz.ntmps37
  go_wp2_with fail
  refine HM.out.mono ?_
  rintro e w1 ⟨rfl, m0, g1⟩
  have T1 : Turn B C w w1 := ⟨g1.os.trans T0.os, g1.tape.trans T0.tape, g1.output.trans T0.output, Nat.le_trans T0.size g1.size, fun k hk hd => (g1.block k (by have := T0.size; omega) (fun e => by have := lt0 k e.symm; have := s0 k e.symm; omega)).trans (T0.block k hk hd)⟩
  have HR := Lib.hid (show Holds B C w1 (OwnC B C (.slice a n c) (marksK k0 n)) from ⟨ownC_lives, Nat.le_trans hC T1.size, m0, s0⟩)
  clear g1 T0 HM m0 c0 c1 c2 c3
  go_wp2_with fail
  go_ret
  exact ⟨rfl, HR.out, T1⟩
end Go.Proofs.YtiajdnhmjdfeeaaGreat
