/- Slices of triples that the call owns: plain facts.; Drawn graphs are small; what lies far stays while one draws.; What is asked: drawn patterns of a bounded length. -/
import Derived.Test.YtiajdnhmjdfeeaaGreatK08
import Derived.Test.YtiajdnhmjdfeeaaGreatK01
import Derived.Outline
import Derived.Test.YtiajdnhmjdfeeaaGreatK02
namespace Go.Proofs.YtiajdnhmjdfeeaaGreat
open Go.RowKit Go.WideShapes
theorem own3_snoc {B : Nat} {w : World} {v : Value} {ts : List Tri3} {t : Tri3} (h : w.ownsRow B 65 3 v (ts.length + 1) (flat ts ++ [.string t.1, .string t.2.1, .string t.2.2])) : OwnT B w v (ts ++ [t]) := by
  unfold OwnT; rw [flat_snoc, List.length_append]; exact h
theorem three_cell {w : World} {u v z : Value} {e : Nat} : ∀ (j : Nat) (x : Value), [u, v, z][j]? = some x → (w.alloc (.cells #[u, v, z] e)).cell? ((⟨w.heap.size, 0, none⟩ : Addr).add j) = some x := by
  intro j x hj
  match j, hj with
  | 0, hj => simp at hj; subst hj; simp [Addr.add]
  | 1, hj => simp at hj; subst hj; simp [Addr.add]
  | 2, hj => simp at hj; subst hj; simp [Addr.add]
theorem own_next {B : Nat} {w w' : World} {v : Value} {ts : List Tri3} (h : OwnT B w v ts) (hb : w.grownBy w' none) : OwnT B w' v ts := by
  refine World.ownsRow.kept h hb ?_
  cases v.ownBlock
  · exact .inl rfl
  · exact .inr (by simp)
theorem own_base {B B' : Nat} {w : World} {v : Value} {ts : List Tri3} (h : OwnT B w v ts) (hb : B' ≤ B) : OwnT B' w v ts := by
  refine ⟨h.1, h.2.imp id ?_⟩
  rintro ⟨g, c, cur, h1, h2, h3⟩
  exact ⟨g, c, cur, h1, by omega, h3⟩
end Go.Proofs.YtiajdnhmjdfeeaaGreat
namespace Go.Proofs.YtiajdnhmjdfeeaaGreat
open Go.RowKit Go.WideShapes
def SmG (ts : List Tri3) : Prop := ts.length ≤ 81 ∧ ∀ t ∈ ts, t.1.size ≤ 20 ∧ t.2.1.size ≤ 20 ∧ t.2.2.size ≤ 20
theorem SmG.sm {ts : List Tri3} (h : SmG ts) : Sm ts := fun t ht => by have := h.2 t ht; omega
theorem SmG.maxLen {ts : List Tri3} (h : SmG ts) : ∀ t ∈ ts, t.1.size ≤ maxLen ∧ t.2.1.size ≤ maxLen ∧ t.2.2.size ≤ maxLen := fun t ht => by have := h.2 t ht; unfold Go.maxLen; omega
theorem own_rd {B C g : Nat} {w w' : World} {v : Value} {ts : List Tri3} (h : OwnT B w v ts) (hg : w.grownBy w' (some g)) (hBg : g < C) (hC : C ≤ B) : OwnT B w' v ts := by
  refine World.ownsRow.kept h hg ?_
  rcases hv : v.ownBlock with _ | q
  · exact .inl rfl
  · refine .inr fun e => ?_
    have := (World.ownsRow.lt h q hv).1
    cases e
    omega
theorem grown_off {a b c : World} {row r : Option Nat} (h : a.grownBy b row) (k : b.grownBy c r) (hr : ∀ j, r = some j → a.heap.size ≤ j) : a.grownBy c row :=
  ⟨k.os.trans h.os, k.tape.trans h.tape, k.output.trans h.output, Nat.le_trans h.size k.size, fun i hi hne => (k.block i (Nat.lt_of_lt_of_le hi h.size) fun e => by have := hr i e.symm; omega).trans (h.block i hi hne)⟩
end Go.Proofs.YtiajdnhmjdfeeaaGreat
namespace Go.Proofs.YtiajdnhmjdfeeaaGreat
open Go.RowKit Go.WideShapes
def SmA (ps : List Tri3) : Prop := ∀ t ∈ ps, t.1.size ≤ 20 ∧ t.2.1.size ≤ 20 ∧ t.2.2.size ≤ 20
theorem SmA.max {ps : List Tri3} (h : SmA ps) : ∀ t ∈ ps, t.1.size ≤ maxLen ∧ t.2.1.size ≤ maxLen ∧ t.2.2.size ≤ maxLen := fun t ht => by have := h t ht; unfold maxLen; omega
theorem SmA.snoc {ps : List Tri3} (h : SmA ps) {s p o : ByteArray} (h1 : s.size ≤ 20) (h2 : p.size ≤ 20) (h3 : o.size ≤ 20) : SmA (ps ++ [(s, p, o)]) := fun t ht => by
  rcases List.mem_append.1 ht with h' | h'
  · exact h t h'
  · obtain rfl := List.mem_singleton.1 h'
    exact ⟨h1, h2, h3⟩
theorem own_far {B g L : Nat} {w w' : World} {x : Option Addr} {y : Nat} {ts : List Tri3} (h : OwnT B w (.slice x L y) ts) (hl : ts.length = L) (hg : w.grownBy w' (some g)) (hB : g < B) : OwnT B w' (.slice x L y) ts ∧ w'.ownsRow B 65 3 (.slice x L y) L (flat ts) := by
  have h2 := own_rd h hg hB (Nat.le_refl _)
  refine ⟨h2, ?_⟩
  unfold OwnT at h2
  rw [hl] at h2
  exact h2
set_option maxRecDepth 100000 in
set_option maxHeartbeats 3200000 in
theorem rdAsked (B C g : Nat) (w : World) (h : Rd B w g) (v : Value) (ts : List Tri3) (ho : OwnT C w v ts) (hgC : g < C) (hs : SmG ts) :
    Calls Tryz.prog 113 #[.pointer (some ⟨g, 0, none⟩), v] w fun e w' => ∃ (u : Value) (ps : List Tri3), e = .returned u ∧ (1 ≤ ps.length ∧ ps.length ≤ 3) ∧ SmA ps ∧ OwnT w.heap.size w' u ps ∧ Rd B w' g ∧ w.grownBy w' (some g) := by
  obtain ⟨i0, hi, hz0, hz1, hzB⟩ := info_parts infoTri
  obtain ⟨a, ca, rfl, hI⟩ := ho.is hs.maxLen
  obtain ⟨la, hla⟩ : ∃ la, ts.length = la := ⟨_, rfl⟩
  rw [hla] at ho hI ⊢
  have hla81 : la ≤ 81 := by have := hs.1; omega
  have HO := Lib.hid ho
  have HLA := Lib.hid hla
  have hgw := h.2.1
  have hBg := h.1
  have R0 := h.alloc (.cells #[] 65)
  have G0 := World.grownBy_alloc w (.cells #[] 65) (some g)
  have O0 : OwnT w.heap.size (w.alloc (.cells #[] 65)) (.slice (some ⟨w.heap.size, 0, none⟩) 0 0) [] := World.ownsRow_lit (size := 3) (e := 65) w #[] 0 (Nat.le_refl _) (by decide) rfl
  have RB := rdBelow B g _ R0 3 (by omega) (by omega)
  have HRB := Lib.hid RB
  have HU := Lib.hid O0
  clear O0 RB R0 ho hI hla
  go_enter Tryz.func113, Tryz.ntmps113
  go_wp2_with fail
  refine HRB.out.mono ?_
  rintro e w1 ⟨m, hm0, hm1, rfl, r1, g1⟩
  have G1 := G0.trans g1
  have O1 := own_rd HU.out g1 hgw (Nat.le_refl _)
  obtain ⟨m, rfl⟩ := Int.eq_ofNat_of_zero_le hm0
  have hm2 : m ≤ 2 := by omega
  have HR1 := Lib.hid r1
  have HO1 := Lib.hid O1
  clear g1 G0 HU O1 r1 HRB hm0 hm1
  go_wp2_with fail
  go_loopw [5, 6] (fun u' i wr => ∃ (k : Nat) (u : Value) (ps : List Tri3), k ≤ 3 ∧ i = .int .i64 k ∧ u = u' ∧ Hid ((1 ≤ ps.length + k ∧ ps.length + k ≤ 3) ∧ SmA ps) ∧ Hid (OwnT w.heap.size wr u ps) ∧ Hid (Rd B wr g) ∧ w.grownBy wr (some g)) (fun _ i _ => (intOf i).toNat)
  case atStart => exact ⟨1 + m, _, [], by omega, by go_num, rfl, Lib.hid ⟨by simp; omega, fun t ht => by simp at ht⟩, HO1, HR1, G1⟩
  case round =>
    obtain ⟨k, u, ps, hk, rfl, rfl, hsm, hown, hrd, hg⟩ := hrel
    clear HO1 HR1 G1 hm2
    obtain ⟨x, y, rfl, _⟩ := hown.out.is hsm.out.2.max
    obtain ⟨L, hL⟩ : ∃ L, ps.length = L := ⟨_, rfl⟩
    rw [hL] at hown ⊢
    have HL := Lib.hid hL
    have hL3 : L + k ≤ 3 := by have := hsm.out.1; omega
    have hL1 : 1 ≤ L + k := by have := hsm.out.1; omega
    clear hL
    by_cases hk0 : 0 < k
    · have hk1 : (0 : Int) < (k : Int) := by omega
      by_cases hl0 : la = 0
      · subst hl0
        have HP := Lib.hid (rdPattern B g wr hrd.out)
        go_wp2_with fail
        refine HP.out.mono ?_
        rintro e w3 ⟨s, p, o, z1, z2, z3, rfl, r3, g3⟩
        have G3 := hg.trans g3
        have O3 := own_far hown.out HL.out g3 hgw
        have hlt := fun q hq => (World.ownsRow.lt O3.2 q hq).1
        have OA := Lib.hid (World.ownsRow.alloc O3.2 (.cells #[.string s, .string p, .string o] 65))
        have RA := Lib.hid (r3.alloc (.cells #[.string s, .string p, .string o] 65))
        have GA := G3.trans (World.grownBy_alloc w3 (.cells #[.string s, .string p, .string o] 65) (some g))
        have hz3 := (G3).size
        have HH := Lib.hid (three_cell (w := w3) (u := .string s) (v := .string p) (z := .string o) (e := 65))
        have HQ := Lib.hid (And.intro z1 (And.intro z2 z3))
        clear hg g3 r3 hown hrd HP O3 G3 z1 z2 z3
        go_wp2_with (at_builtin; refine wpList_append_own _ rfl _ _ 31 rfl w.heap.size 65 i0 (.agg #[.string ⟨#[]⟩, .string ⟨#[]⟩, .string ⟨#[]⟩]) 3 48 Tryz.underlying31 hi hz0 hz1 hzB rfl (by decide) _ _ _ rfl OA.out ⟨w3.heap.size, 0, none⟩ 1 _ [.string s, .string p, .string o] rfl rfl HH.out (by intro z hz; simp at hz; rcases hz with rfl | rfl | rfl <;> rfl) ?h63 ?h48 ?hbs ?_)
        case h63 => unfold maxLen; omega
        case h48 => omega
        case hbs => simp only [World.size_alloc]; omega
        intro v5 w5 hown5 hg5 _
        have O5 : OwnT w.heap.size w5 v5 (ps ++ [(s, p, o)]) := own3_snoc (t := (s, p, o)) (by rw [HL.out]; exact hown5)
        have R5 := Lib.hid (RA.out.grown hg5 (fun q e => by have := hlt q e; omega))
        have G5 := grown_off GA hg5 (fun q e => hlt q e)
        have HO5 := Lib.hid O5
        clear hown5 hg5 OA RA HH GA O5
        go_wp2_with fail
        go_roundw
        case rel => exact ⟨k - 1, v5, ps ++ [(s, p, o)], by omega, by rw [show ((k - 1 : Nat) : Int) = (k : Int) - 1 from by omega], rfl, Lib.hid ⟨by simp [HL.out]; omega, hsm.out.2.snoc HQ.out.1 HQ.out.2.1 HQ.out.2.2⟩, HO5, R5, G5⟩
        case measure => simp [intOf]; omega
      · have hl1 : ¬ (la : Int) = 0 := by omega
        have HO4 := Lib.hid (rdOnce B g wr hrd.out 4 (by omega) (by omega))
        go_wp2_with fail
        refine HO4.out.mono ?_
        rintro e w2 ⟨b, rfl, r2, g2⟩
        have G2 := hg.trans g2
        have O2 := Lib.hid (own_far hown.out HL.out g2 hgw)
        have R2 := Lib.hid r2
        clear hg g2 r2 hown hrd HO4
        cases b
        · have HB := Lib.hid (rdBelow B g w2 R2.out la (by omega) (by omega))
          go_wp2_with fail
          refine HB.out.mono ?_
          rintro e w3 ⟨q, hq0, hq1, rfl, r3, g3⟩
          obtain ⟨q, rfl⟩ := Int.eq_ofNat_of_zero_le hq0
          have hq : q < la := by omega
          have G3 := G2.trans g3
          have O3 := Lib.hid (own_far O2.out.1 HL.out g3 hgw)
          have hlt := fun q hq => (World.ownsRow.lt O3.out.2 q hq).1
          obtain ⟨a', c', e', hI⟩ := (own_far HO.out HLA.out G3 hgC).1.is hs.maxLen
          rw [HLA.out] at e' hI
          cases e'
          obtain ⟨tb0, to, rfl, htb0, _, _, hts, hcs⟩ := hI.cells (by omega)
          have ht : ts[q]? = some (ts[q]'(by omega)) := List.getElem?_eq_getElem (by omega)
          obtain ⟨c0, c1, c2, _⟩ := hcs q _ ht
          have hz := hs.2 _ (List.getElem_mem (by omega : q < ts.length))
          generalize ts[q]'(by omega) = t at ht c0 c1 c2 hz
          obtain ⟨s, p, o⟩ := t
          dsimp only at c0 c1 c2 hz
          obtain ⟨z1, z2, z3⟩ := hz
          have T1 := Box.new w3 (.string s) (.string p) (.string o) 65
          have V1 := World.grownBy_alloc w3 (.cells #[.string s, .string p, .string o] 65) (some g)
          have hr2 := r3.alloc (.cells #[.string s, .string p, .string o] 65)
          have hz3' := G3.size
          have HG3 := Lib.hid G3
          clear g3 r3 G2 O2 R2 HB hcs hI G3
          go_wp2_with fail
          clear c0 c1 c2
          generalize hA : w3.alloc (.cells #[.string s, .string p, .string o] 65) = wz at T1 V1 hr2 ⊢
          clear hA
          obtain ⟨tb, htb⟩ : ∃ tb, w3.heap.size = tb := ⟨_, rfl⟩
          rw [htb] at T1 ⊢
          have hgt : g < tb := by omega
          have htb' : w3.heap.size ≤ tb := by omega
          have hBt : B ≤ tb := by omega
          clear htb
          refine (rdOnce B g _ hr2 3 (by omega) (by omega)).mono ?_
          rintro e wz ⟨b, rfl, hr, hg⟩
          have T := T1.grown hg (by simp; omega)
          have V := V1.trans hg
          clear hg T1 V1 hr2
          cases b
          case' false =>
            obtain ⟨c0, c1, c2⟩ := T.cells
            obtain ⟨f0, f1, f2⟩ := T.free
            go_wp2_with fail
            refine (rdVariable B g _ hr).mono ?_
            rintro e wy ⟨x9, _, hx, rfl, hr', hg⟩
            have T' := T.grown hg (by simp; omega)
            have V1 := grown_setNew (V.trans hg) (a := ⟨tb, 0, none⟩) (by simp; omega) (.string x9)
            have hr2 := hr'.setFar (a := ⟨tb, 0, none⟩) (by simp; omega) (by simp; omega) (.string x9)
            clear hg T V hr hr' c0 c1 c2 f0 f1 f2 z1
            obtain ⟨c0, c1, c2⟩ := T'.cells
            obtain ⟨f0, f1, f2⟩ := T'.free
            have T1 := T'.set0 (.string x9)
            have z1 : x9.size ≤ 20 := by omega
            clear T'
            go_wp2_with fail
            clear c0 c1 c2 f0 f1 f2 hx
            generalize wy.setCell ⟨tb, 0, none⟩ (.string x9) = wz at T1 V1 hr2 ⊢
            obtain ⟨s, rfl⟩ : ∃ z, z = x9 := ⟨_, rfl⟩
          case' true =>
            go_wp2_with fail
            have T1 := T
            have V1 := V
            have hr2 := hr
            clear T V hr
          all_goals
            refine (rdOnce B g _ hr2 6 (by omega) (by omega)).mono ?_
            rintro e wz ⟨b, rfl, hr, hg⟩
            have T := T1.grown hg (by simp; omega)
            have V := V1.trans hg
            clear hg T1 V1 hr2
            cases b
            case' true =>
              obtain ⟨c0, c1, c2⟩ := T.cells
              obtain ⟨f0, f1, f2⟩ := T.free
              go_wp2_with fail
              refine (rdVariable B g _ hr).mono ?_
              rintro e wy ⟨x9, _, hx, rfl, hr', hg⟩
              have T' := T.grown hg (by simp; omega)
              have V1 := grown_setNew (V.trans hg) (a := ⟨tb, 1, none⟩) (by simp; omega) (.string x9)
              have hr2 := hr'.setFar (a := ⟨tb, 1, none⟩) (by simp; omega) (by simp; omega) (.string x9)
              clear hg T V hr hr' c0 c1 c2 f0 f1 f2 z2
              obtain ⟨c0, c1, c2⟩ := T'.cells
              obtain ⟨f0, f1, f2⟩ := T'.free
              have T1 := T'.set1 (.string x9)
              have z2 : x9.size ≤ 20 := by omega
              clear T'
              go_wp2_with fail
              clear c0 c1 c2 f0 f1 f2 hx
              generalize wy.setCell ⟨tb, 1, none⟩ (.string x9) = wz at T1 V1 hr2 ⊢
              obtain ⟨p, rfl⟩ : ∃ z, z = x9 := ⟨_, rfl⟩
            case' false =>
              go_wp2_with fail
              have T1 := T
              have V1 := V
              have hr2 := hr
              clear T V hr
            all_goals
              refine (rdOnce B g _ hr2 3 (by omega) (by omega)).mono ?_
              rintro e wz ⟨b, rfl, hr, hg⟩
              have T := T1.grown hg (by simp; omega)
              have V := V1.trans hg
              clear hg T1 V1 hr2
              cases b
              case false =>
                obtain ⟨c0, c1, c2⟩ := T.cells
                obtain ⟨f0, f1, f2⟩ := T.free
                go_wp2_with fail
                refine (rdVariable B g _ hr).mono ?_
                rintro e wy ⟨x9, _, hx, rfl, hr', hg⟩
                have T' := T.grown hg (by simp; omega)
                have V1 := grown_setNew (V.trans hg) (a := ⟨tb, 2, none⟩) (by simp; omega) (.string x9)
                have hr2 := hr'.setFar (a := ⟨tb, 2, none⟩) (by simp; omega) (by simp; omega) (.string x9)
                clear hg T V hr hr' c0 c1 c2 f0 f1 f2 z3
                obtain ⟨c0, c1, c2⟩ := T'.cells
                obtain ⟨f0, f1, f2⟩ := T'.free
                have z3 : x9.size ≤ 20 := by omega
                clear T'
                have O4 := own_far O3.out.1 HL.out V1 hgw
                have GG := HG3.out.trans V1
                have OA := Lib.hid (World.ownsRow.alloc O4.2 (.cells #[.string s, .string p, .string x9] 65))
                have RA := Lib.hid (hr2.alloc (.cells #[.string s, .string p, .string x9] 65))
                have GA := GG.trans (World.grownBy_alloc (wy.setCell ⟨tb, 2, none⟩ (.string x9)) (.cells #[.string s, .string p, .string x9] 65) (some g))
                have hz3 := GG.size
                have HH0 := three_cell (w := wy.setCell ⟨tb, 2, none⟩ (.string x9)) (u := .string s) (v := .string p) (z := .string x9) (e := 65)
                rw [show (wy.setCell ⟨tb, 2, none⟩ (.string x9)).heap.size = wy.heap.size from by simp [World.setCell]] at HH0
                have HH := Lib.hid HH0
                have HQ := Lib.hid (And.intro z1 (And.intro z2 z3))
                clear GG V1 hr2 O4 z1 z2 HH0
                go_wp2_with (at_builtin; refine wpList_append_own _ rfl _ _ 31 rfl w.heap.size 65 i0 (.agg #[.string ⟨#[]⟩, .string ⟨#[]⟩, .string ⟨#[]⟩]) 3 48 Tryz.underlying31 hi hz0 hz1 hzB rfl (by decide) _ _ _ rfl OA.out _ 1 _ [.string s, .string p, .string x9] rfl rfl HH.out (by intro z hz; simp at hz; rcases hz with rfl | rfl | rfl <;> rfl) ?h63 ?h48 ?hbs ?_)
                case h63 => unfold maxLen; omega
                case h48 => omega
                case hbs => simp only [World.size_alloc]; omega
                intro v5 w5 hown5 hg5 _
                have O5 : OwnT w.heap.size w5 v5 (ps ++ [(s, p, x9)]) := own3_snoc (t := (s, p, x9)) (by rw [HL.out]; exact hown5)
                have R5 := Lib.hid (RA.out.grown hg5 (fun q e => by have := hlt q e; omega))
                have G5 := grown_off GA hg5 (fun q e => hlt q e)
                have HO5 := Lib.hid O5
                clear hown5 hg5 OA RA HH GA O5
                go_wp2_with fail
                go_roundw
                case rel => exact ⟨k - 1, v5, ps ++ [(s, p, x9)], by omega, by rw [show ((k - 1 : Nat) : Int) = (k : Int) - 1 from by omega], rfl, Lib.hid ⟨by simp [HL.out]; omega, hsm.out.2.snoc HQ.out.1 HQ.out.2.1 HQ.out.2.2⟩, HO5, R5, G5⟩
                case measure => simp [intOf]; omega
              case true =>
                obtain ⟨c0, c1, c2⟩ := T.cells
                obtain ⟨f0, f1, f2⟩ := T.free
                have V1 := V
                have hr2 := hr
                clear T V hr
                have O4 := own_far O3.out.1 HL.out V1 hgw
                have GG := HG3.out.trans V1
                have OA := Lib.hid (World.ownsRow.alloc O4.2 (.cells #[.string s, .string p, .string o] 65))
                have RA := Lib.hid (hr2.alloc (.cells #[.string s, .string p, .string o] 65))
                have GA := GG.trans (World.grownBy_alloc (wz) (.cells #[.string s, .string p, .string o] 65) (some g))
                have hz3 := GG.size
                have HH0 := three_cell (w := wz) (u := .string s) (v := .string p) (z := .string o) (e := 65)
                have HH := Lib.hid HH0
                have HQ := Lib.hid (And.intro z1 (And.intro z2 z3))
                clear GG V1 hr2 O4 z1 z2 HH0
                go_wp2_with (at_builtin; refine wpList_append_own _ rfl _ _ 31 rfl w.heap.size 65 i0 (.agg #[.string ⟨#[]⟩, .string ⟨#[]⟩, .string ⟨#[]⟩]) 3 48 Tryz.underlying31 hi hz0 hz1 hzB rfl (by decide) _ _ _ rfl OA.out _ 1 _ [.string s, .string p, .string o] rfl rfl HH.out (by intro z hz; simp at hz; rcases hz with rfl | rfl | rfl <;> rfl) ?h63 ?h48 ?hbs ?_)
                case h63 => unfold maxLen; omega
                case h48 => omega
                case hbs => simp only [World.size_alloc]; omega
                intro v5 w5 hown5 hg5 _
                have O5 : OwnT w.heap.size w5 v5 (ps ++ [(s, p, o)]) := own3_snoc (t := (s, p, o)) (by rw [HL.out]; exact hown5)
                have R5 := Lib.hid (RA.out.grown hg5 (fun q e => by have := hlt q e; omega))
                have G5 := grown_off GA hg5 (fun q e => hlt q e)
                have HO5 := Lib.hid O5
                clear hown5 hg5 OA RA HH GA O5
                go_wp2_with fail
                go_roundw
                case rel => exact ⟨k - 1, v5, ps ++ [(s, p, o)], by omega, by rw [show ((k - 1 : Nat) : Int) = (k : Int) - 1 from by omega], rfl, Lib.hid ⟨by simp [HL.out]; omega, hsm.out.2.snoc HQ.out.1 HQ.out.2.1 HQ.out.2.2⟩, HO5, R5, G5⟩
                case measure => simp [intOf]; omega
        · have HP := Lib.hid (rdPattern B g w2 R2.out)
          go_wp2_with fail
          refine HP.out.mono ?_
          rintro e w3 ⟨s, p, o, z1, z2, z3, rfl, r3, g3⟩
          have G3 := G2.trans g3
          have O3 := own_far O2.out.1 HL.out g3 hgw
          have hlt := fun q hq => (World.ownsRow.lt O3.2 q hq).1
          have OA := Lib.hid (World.ownsRow.alloc O3.2 (.cells #[.string s, .string p, .string o] 65))
          have RA := Lib.hid (r3.alloc (.cells #[.string s, .string p, .string o] 65))
          have GA := G3.trans (World.grownBy_alloc w3 (.cells #[.string s, .string p, .string o] 65) (some g))
          have hz3 := (G3).size
          have HH := Lib.hid (three_cell (w := w3) (u := .string s) (v := .string p) (z := .string o) (e := 65))
          have HQ := Lib.hid (And.intro z1 (And.intro z2 z3))
          clear G2 g3 r3 O2 R2 HP O3 G3 z1 z2 z3
          go_wp2_with (at_builtin; refine wpList_append_own _ rfl _ _ 31 rfl w.heap.size 65 i0 (.agg #[.string ⟨#[]⟩, .string ⟨#[]⟩, .string ⟨#[]⟩]) 3 48 Tryz.underlying31 hi hz0 hz1 hzB rfl (by decide) _ _ _ rfl OA.out ⟨w3.heap.size, 0, none⟩ 1 _ [.string s, .string p, .string o] rfl rfl HH.out (by intro z hz; simp at hz; rcases hz with rfl | rfl | rfl <;> rfl) ?h63 ?h48 ?hbs ?_)
          case h63 => unfold maxLen; omega
          case h48 => omega
          case hbs => simp only [World.size_alloc]; omega
          intro v5 w5 hown5 hg5 _
          have O5 : OwnT w.heap.size w5 v5 (ps ++ [(s, p, o)]) := own3_snoc (t := (s, p, o)) (by rw [HL.out]; exact hown5)
          have R5 := Lib.hid (RA.out.grown hg5 (fun q e => by have := hlt q e; omega))
          have G5 := grown_off GA hg5 (fun q e => hlt q e)
          have HO5 := Lib.hid O5
          clear hown5 hg5 OA RA HH GA O5
          go_wp2_with fail
          go_roundw
          case rel => exact ⟨k - 1, v5, ps ++ [(s, p, o)], by omega, by rw [show ((k - 1 : Nat) : Int) = (k : Int) - 1 from by omega], rfl, Lib.hid ⟨by simp [HL.out]; omega, hsm.out.2.snoc HQ.out.1 HQ.out.2.1 HQ.out.2.2⟩, HO5, R5, G5⟩
          case measure => simp [intOf]; omega
    · obtain rfl : k = 0 := by omega
      go_wp2_with fail
      go_ret
      exact ⟨_, ps, rfl, by rw [HL.out]; omega, hsm.out.2, hown.out, hrd.out, hg⟩
end Go.Proofs.YtiajdnhmjdfeeaaGreat
