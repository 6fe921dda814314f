/- What a row and a triple give: the program's own.; Alike where alike: the program's own test.; A row and a pattern: the specification's own l5Match. -/
import Derived.Test.YtiajdnhmjdfeeaaGreatK33
import Derived.Test.YtiajdnhmjdfeeaaGreatK13
import Derived.Test.YtiajdnhmjdfeeaaGreatK18
import Derived.Test.YtiajdnhmjdfeeaaGreatK31
import Derived.Test.YtiajdnhmjdfeeaaGreatK01
import Derived.Test.YtiajdnhmjdfeeaaGreatK07
import Derived.Deep.RegionHeld3
import Derived.Laws.AppendOwnNone
import Derived.Test.YtiajdnhmjdfeeaaGreatK26
namespace Go.Proofs.YtiajdnhmjdfeeaaGreat
open Go.RowKit Go.WideShapes
theorem own_box_ne {B g : Nat} {w : World} {v : Value} {ts : RowV} {x y z : Value} {T : TypeId} (h : OwnP B w v ts) (hb : Box w g x y z T) (hT : T ≠ 55) : v.ownBlock ≠ some g := by
  intro e
  rcases h.2 with ⟨rfl, _⟩ | ⟨g', cap, cur, rfl, _, hg, _⟩
  · simp [Value.ownBlock] at e
  · simp [Value.ownBlock] at e
    subst e
    unfold Box at hb
    rw [hb] at hg
    simp only [Option.some.injEq, Obj.cells.injEq] at hg
    exact hT hg.2.1
theorem ownP_set3 {B g : Nat} {w : World} {v : Value} {ts : RowV} (h : OwnP B w v ts) (hne : v.ownBlock ≠ some g) (x y z : Value) : OwnP B (((w.setCell ⟨g, 0, none⟩ x).setCell ⟨g, 1, none⟩ y).setCell ⟨g, 2, none⟩ z) v ts := by
  have one : ∀ (w : World) (j : Nat) (u : Value), OwnP B w v ts → OwnP B (w.setCell ⟨g, j, none⟩ u) v ts := fun w j u h => by
    refine World.ownsRow.kept h (row := some g) ⟨rfl, rfl, rfl, by simp [World.setCell], fun k _ hk => Below.heap_setCell _ _ _ _ (fun e => hk (by rw [e]))⟩ (.inr hne)
  exact one _ 2 z (one _ 1 y (one _ 0 x h))
theorem insP_asc {q : RowV} {x y : ByteArray} (ha : Asc q) (h : inDom q x = false) : Asc (insP q (x, y)) := putP_asc ha (putP_out (fun v hv e => by
  have : inDom q x = true := inDom_iff.2 (List.mem_map.2 ⟨v, hv, e⟩)
  rw [h] at this; cases this))
theorem stepB_asc {q : RowV} {x y : ByteArray} (ha : Asc q) : Asc (stepB q x y) := by
  unfold stepB
  split
  · rename_i h; exact insP_asc ha h.2
  · exact ha
theorem insP_len (q : RowV) (u : Pre2) : (insP q u).length = q.length + 1 := by
  have := posP_le u.1 q
  unfold insP; simp [List.length_take]; omega
theorem stepB_len (q : RowV) (x y : ByteArray) : (stepB q x y).length ≤ q.length + 1 := by
  unfold stepB
  split
  · rw [insP_len]; omega
  · omega
theorem stepB_small {q : RowV} {x y : ByteArray} (h : SmP q) (hx : x.size ≤ 1048576) (hy : y.size ≤ 1048576) : SmP (stepB q x y) := by
  unfold stepB
  split
  · intro u hu
    rcases insP_mem.1 hu with hu | rfl
    · exact h u hu
    · exact ⟨hx, hy⟩
  · exact h
/-- The first k places bound. -/
def bndM (r : RowV) (ps ts : List ByteArray) : Nat → RowV
  | 0 => r
  | k + 1 => stepB (bndM r ps ts k) (ps[k]?.getD ⟨#[]⟩) (ts[k]?.getD ⟨#[]⟩)
theorem boundM_bnd (r : RowV) (a t : Tri3) : boundM r a t = bndM r (wordsT a) (wordsT t) 3 := by simp [boundM, bndM, wordsT]
theorem bndM_next {r : RowV} {ps ts : List ByteArray} {k : Nat} {x y : ByteArray} (hx : ps[k]? = some x) (hy : ts[k]? = some y) : bndM r ps ts (k + 1) = stepB (bndM r ps ts k) x y := by simp only [bndM, hx, hy, Option.getD_some]
theorem word_most {a : Tri3} (h : a.1.size ≤ 1048576 ∧ a.2.1.size ≤ 1048576 ∧ a.2.2.size ≤ 1048576) (j : Nat) (x : ByteArray) (hx : (wordsT a)[j]? = some x) : x.size ≤ 1048576 := by
  obtain ⟨a1, a2, a3⟩ := a
  rcases words_cases hx with ⟨rfl, rfl⟩ | ⟨rfl, rfl⟩ | ⟨rfl, rfl⟩
  · exact h.1
  · exact h.2.1
  · exact h.2.2
/-- Two boxes of three words, one behind the other. -/
def Two (w : World) (g : Nat) (p1 p2 p3 t1 t2 t3 : ByteArray) : Prop := Box w g (.string p1) (.string p2) (.string p3) 65 ∧ Box w (g + 1) (.string t1) (.string t2) (.string t3) 65
section
variable {w w' : World} {g : Nat} {p1 p2 p3 t1 t2 t3 : ByteArray}
theorem Two.next (h : Two w g p1 p2 p3 t1 t2 t3) (hb : Below w.heap.size w w') : Two w' g p1 p2 p3 t1 t2 t3 := ⟨h.1.next hb, h.2.next hb⟩
theorem Two.alloc (h : Two w g p1 p2 p3 t1 t2 t3) (o : Obj) : Two (w.alloc o) g p1 p2 p3 t1 t2 t3 := ⟨h.1.alloc o, h.2.alloc o⟩
theorem Two.drew (h : Two w g p1 p2 p3 t1 t2 t3) : Two w.drew g p1 p2 p3 t1 t2 t3 := h
theorem Two.cells (h : Two w g p1 p2 p3 t1 t2 t3) : w.cell? ⟨g, 0, none⟩ = some (.string p1) ∧ w.cell? ⟨g, 1, none⟩ = some (.string p2) ∧ w.cell? ⟨g, 2, none⟩ = some (.string p3) := h.1.cells
theorem Two.set3 (h : Two w g p1 p2 p3 t1 t2 t3) {k : Nat} (hk : g + 1 < k) (x y z : Value) : Two (((w.setCell ⟨k, 0, none⟩ x).setCell ⟨k, 1, none⟩ y).setCell ⟨k, 2, none⟩ z) g p1 p2 p3 t1 t2 t3 :=
  ⟨((h.1.far (a := ⟨k, 0, none⟩) (by show g ≠ k; omega) x).far (a := ⟨k, 1, none⟩) (by show g ≠ k; omega) y).far (a := ⟨k, 2, none⟩) (by show g ≠ k; omega) z,
   ((h.2.far (a := ⟨k, 0, none⟩) (by show g + 1 ≠ k; omega) x).far (a := ⟨k, 1, none⟩) (by show g + 1 ≠ k; omega) y).far (a := ⟨k, 2, none⟩) (by show g + 1 ≠ k; omega) z⟩
end
theorem box_set3B {w : World} {g : Nat} {x y z : Value} {T : TypeId} (h : Box w g x y z T) (a b c : Value) : Box (((w.setCell ⟨g, 0, none⟩ a).setCell ⟨g, 1, none⟩ b).setCell ⟨g, 2, none⟩ c) g a b c T := ((h.set0 a).set1 b).setc2 c
set_option maxRecDepth 100000 in
set_option maxHeartbeats 6400000 in
theorem implBound (a : Option Addr) (n c : Nat) (r : RowV) (p t : Tri3) (w : World) (h : IsPres w a n c r) (ha : Asc r) (hn : n ≤ 1000) (hr : SmP r) (hp : p.1.size ≤ 1048576 ∧ p.2.1.size ≤ 1048576 ∧ p.2.2.size ≤ 1048576) (ht : t.1.size ≤ 1048576 ∧ t.2.1.size ≤ 1048576 ∧ t.2.2.size ≤ 1048576) :
    Calls Tryz.prog 161 #[.slice a n c, .agg #[.string p.1, .string p.2.1, .string p.2.2], .agg #[.string t.1, .string t.2.1, .string t.2.2]] w fun e w' => ∃ v, e = .returned v ∧ OwnP w.heap.size w' v (boundM r p t) ∧ Below w.heap.size w w' := by
  have HPW := Lib.hid (word_most hp)
  have HTW := Lib.hid (word_most ht)
  have HBD := Lib.hid (boundM_bnd r p t)
  obtain ⟨p1, p2, p3⟩ := p
  obtain ⟨t1, t2, t3⟩ := t
  dsimp only
  have HL := Lib.hid h.len
  have HR := Lib.hid hr
  have HAS := Lib.hid ha
  have HC : Hid (∀ W, Below w.heap.size w W → Calls Tryz.prog 79 #[.slice a n c] W fun e w' => ∃ v, e = .returned v ∧ OwnP w.heap.size w' v r ∧ Below W.heap.size W w' ∧ Below w.heap.size w w') := Lib.hid (fun W hW => (clonePair a n c r W (h.next hW) (by omega)).mono fun e w' ⟨v, he, ho, hb⟩ => ⟨v, he, ownP_base ho hW.size, hb, hW.trans (hb.mono hW.size)⟩)
  have HPp : Hid (∀ W, Below w.heap.size w W → Calls Tryz.prog 82 #[.agg #[.string p1, .string p2, .string p3]] W fun e w' => e = .returned (.agg #[.string p1, .string p2, .string p3]) ∧ Below W.heap.size W w' ∧ Below w.heap.size w w') := Lib.hid (fun W hW => (implParts p1 p2 p3 W).mono fun e w' ⟨he, hb⟩ => ⟨he, hb, hW.trans (hb.mono hW.size)⟩)
  have E1 := Box.new w (.string p1) (.string p2) (.string p3) 65
  have B1 := (Below.refl w.heap.size w).alloc (Nat.le_refl _) (.cells #[.string p1, .string p2, .string p3] 65)
  have E2 := Box.new (w.alloc (.cells #[.string p1, .string p2, .string p3] 65)) (.string t1) (.string t2) (.string t3) 65
  have E1' := E1.alloc (.cells #[.string t1, .string t2, .string t3] 65)
  have B2 := B1.alloc B1.size (.cells #[.string t1, .string t2, .string t3] 65)
  rw [World.size_alloc] at E2
  clear E1 B1 h hp ht hr ha
  go_enter Tryz.func161, Tryz.ntmps161
  go_wp2_with fail
  generalize (w.alloc (.cells #[.string p1, .string p2, .string p3] 65)).alloc (.cells #[.string t1, .string t2, .string t3] 65) = w2 at E1' E2 B2 ⊢
  have BI := Lib.hid B2
  have BF := Lib.hid B2.drew
  have XX : Hid (Two w2 w.heap.size p1 p2 p3 t1 t2 t3) := Lib.hid ⟨E1', E2⟩
  have hT : (116 : TypeId) ≠ 55 := by decide
  clear B2 E1' E2
  go_region_held3 (fun w' => w'.cell? ⟨w.heap.size, 0, none⟩ = some (.string p1) ∧ w'.cell? ⟨w.heap.size, 1, none⟩ = some (.string p2) ∧ w'.cell? ⟨w.heap.size, 2, none⟩ = some (.string p3))
    (first | with_reducible exact (XX6.out.set3 ZL _ _ _).cells | with_reducible exact XX6.out.cells | with_reducible exact (XX6.out.alloc _).cells | with_reducible exact XX5.out.cells | with_reducible exact (XX5.out.alloc _).cells | with_reducible exact XX.out.drew.cells | with_reducible exact (XX.out.alloc _).drew.cells)
    (first
      | (go_at_call 79; first | refine (HC.out _ BF.out).mono ?_ | refine (HC.out _ (BI.out.alloc BI.out.size (.cells #[.string ⟨#[]⟩, .string ⟨#[]⟩, .string ⟨#[]⟩] 116)).drew).mono ?_
         rintro e w5 ⟨v, rfl, o5, hb5, b5⟩
         have XX5 : Hid (Two w5 w.heap.size p1 p2 p3 t1 t2 t3) := Lib.hid (by first | exact XX.out.drew.next hb5 | exact (XX.out.alloc (.cells #[.string ⟨#[]⟩, .string ⟨#[]⟩, .string ⟨#[]⟩] 116)).drew.next hb5)
         have B5 := Lib.hid b5
         (first | (have Z := Box.next (Box.drew (Box.new w2 (.string ⟨#[]⟩) (.string ⟨#[]⟩) (.string ⟨#[]⟩) 116)) hb5; have ZL := XX.out.2.lt) | skip))
      | (go_at_call 82; first | refine (HPp.out _ B5.out).mono ?_ | refine (HPp.out _ (B5.out.alloc B5.out.size (.cells #[.string ⟨#[]⟩, .string ⟨#[]⟩, .string ⟨#[]⟩] 116))).mono ?_
         rintro e w6 ⟨rfl, hb6, b6⟩
         have XX6 : Hid (Two w6 w.heap.size p1 p2 p3 t1 t2 t3) := Lib.hid (by first | exact XX5.out.next hb6 | exact (XX5.out.alloc (.cells #[.string ⟨#[]⟩, .string ⟨#[]⟩, .string ⟨#[]⟩] 116)).next hb6)
         have O6 : Hid (OwnP w.heap.size w6 v r) := Lib.hid (by first | exact ownP_kept o5 hb6 | exact ownP_kept (World.ownsRow.alloc o5 (.cells #[.string ⟨#[]⟩, .string ⟨#[]⟩, .string ⟨#[]⟩] 116)) hb6)
         have B6 := Lib.hid b6
         (first | (have Z2 := Box.next Z hb6; clear Z; have Z := Z2; clear Z2) | (have Z := Box.next (Box.new w5 (.string ⟨#[]⟩) (.string ⟨#[]⟩) (.string ⟨#[]⟩) 116) hb6; have ZL := XX5.out.2.lt) | skip)
         (first | (obtain ⟨z0, z1, z2⟩ := Z.cells; obtain ⟨f0, f1, f2⟩ := Z.free) | skip)))
  all_goals
    first
      | (have Z' : Box w6 w2.heap.size (.string ⟨#[]⟩) (.string ⟨#[]⟩) (.string ⟨#[]⟩) 116 := by with_reducible exact Z
         have HZ := Lib.hid (box_set3B Z (.string p1) (.string p2) (.string p3)); have HB := Lib.hid (below_set3 B6.out w2.heap.size (by omega) (.string p1) (.string p2) (.string p3)); have HO := Lib.hid (ownP_set3 O6.out (own_box_ne O6.out Z hT) (.string p1) (.string p2) (.string p3)); have HX := Lib.hid (XX6.out.set3 ZL (.string p1) (.string p2) (.string p3)).2
         try clear z0 z1 z2 f0 f1 f2
         clear Z Z' hb5 b5 hb6 b6 o5 B5 B6 O6 XX5 XX6 BI BF XX HC HPp
         generalize ((w6.setCell ⟨w2.heap.size, 0, none⟩ (.string p1)).setCell ⟨w2.heap.size, 1, none⟩ (.string p2)).setCell ⟨w2.heap.size, 2, none⟩ (.string p3) = wz at HZ HX HB HO ⊢
         generalize w2.heap.size = gb at HZ ZL ⊢)
      | (have Z' : Box w6 w5.heap.size (.string ⟨#[]⟩) (.string ⟨#[]⟩) (.string ⟨#[]⟩) 116 := by with_reducible exact Z
         have HZ := Lib.hid (box_set3B Z (.string p1) (.string p2) (.string p3)); have HB := Lib.hid (below_set3 B6.out w5.heap.size (by omega) (.string p1) (.string p2) (.string p3)); have HO := Lib.hid (ownP_set3 O6.out (own_box_ne O6.out Z hT) (.string p1) (.string p2) (.string p3)); have HX := Lib.hid (XX6.out.set3 ZL (.string p1) (.string p2) (.string p3)).2
         try clear z0 z1 z2 f0 f1 f2
         clear Z Z' hb5 b5 hb6 b6 o5 B5 B6 O6 XX5 XX6 BI BF XX HC HPp
         generalize ((w6.setCell ⟨w5.heap.size, 0, none⟩ (.string p1)).setCell ⟨w5.heap.size, 1, none⟩ (.string p2)).setCell ⟨w5.heap.size, 2, none⟩ (.string p3) = wz at HZ HX HB HO ⊢
         generalize w5.heap.size = gb at HZ ZL ⊢)
      | (have ZL := XX6.out.2.lt; have HZ := Lib.hid (Box.new w6 (.string p1) (.string p2) (.string p3) 116); have HB := Lib.hid (B6.out.alloc B6.out.size (.cells #[.string p1, .string p2, .string p3] 116)); have HO : Hid (OwnP w.heap.size _ v r) := Lib.hid (World.ownsRow.alloc O6.out (.cells #[.string p1, .string p2, .string p3] 116)); have HX := Lib.hid (XX6.out.alloc (.cells #[.string p1, .string p2, .string p3] 116)).2
         clear hb5 b5 hb6 b6 o5 B5 B6 O6 XX5 XX6 BI BF XX HC HPp
         generalize w6.alloc (.cells #[.string p1, .string p2, .string p3] 116) = wz at HZ HX HB HO ⊢
         generalize w6.heap.size = gb at HZ ZL ⊢)
  all_goals
    obtain ⟨ga, ca, hve, _⟩ := HO.out.is (fun t ht => by have := HR.out t ht; unfold maxLen; omega)
    subst hve
    have HASC : Hid (∀ k, Asc (bndM r (wordsT (p1, p2, p3)) (wordsT (t1, t2, t3)) k)) := Lib.hid (fun k => by
      induction k with
      | zero => exact HAS.out
      | succ k ih => exact stepB_asc ih)
    have HSM : Hid (∀ k, k ≤ 3 → SmP (bndM r (wordsT (p1, p2, p3)) (wordsT (t1, t2, t3)) k)) := Lib.hid (fun k => by
      induction k with
      | zero => intro _; exact HR.out
      | succ k ih =>
        intro hk
        have hx : (wordsT (p1, p2, p3))[k]? = some ((wordsT (p1, p2, p3))[k]'(by simp only [wordsT, List.length_cons, List.length_nil]; omega)) := List.getElem?_eq_getElem _
        have hy : (wordsT (t1, t2, t3))[k]? = some ((wordsT (t1, t2, t3))[k]'(by simp only [wordsT, List.length_cons, List.length_nil]; omega)) := List.getElem?_eq_getElem _
        rw [bndM_next hx hy]
        exact stepB_small (ih (by omega)) (HPW.out k _ hx) (HTW.out k _ hy))
    have OZ : Hid (OwnP w.heap.size wz (.slice ga r.length ca) (bndM r (wordsT (p1, p2, p3)) (wordsT (t1, t2, t3)) 0) ∧ (bndM r (wordsT (p1, p2, p3)) (wordsT (t1, t2, t3)) 0).length = r.length) := Lib.hid ⟨HO.out, rfl⟩
    have hrn : r.length ≤ n + 0 := by rw [HL.out]; omega
    generalize r.length = rn at OZ hrn ⊢
    have HBW := Lib.hid (fun (W : World) (hb : Box W gb (.string p1) (.string p2) (.string p3) 116) => box_word hb)
    have HIX := Lib.hid (fun (j : Nat) (x : ByteArray) (h : (wordsT (t1, t2, t3))[j]? = some x) => index3 t1 t2 t3 j x h)
    obtain ⟨ps, hps⟩ : ∃ l, wordsT (p1, p2, p3) = l := ⟨_, rfl⟩
    obtain ⟨ts, hts⟩ : ∃ l, wordsT (t1, t2, t3) = l := ⟨_, rfl⟩
    have hpl : ps.length = 3 := by rw [← hps]; rfl
    have htl : ts.length = 3 := by rw [← hts]; rfl
    have HPS := Lib.hid hps
    have HTS := Lib.hid hts
    rw [hps] at HPW HBD HASC HSM OZ
    rw [hts] at HTW HBD HASC HSM OZ HIX
    have CT := Lib.hid (fun W => implParts t1 t2 t3 W)
    obtain ⟨d0, d1, d2⟩ := HX.out.cells
    clear hps hts HO HAS HR ZL
    go_wp2_with fail
    refine (CT.out _).mono ?_
    rintro e w7 ⟨rfl, hb7⟩
    have OZ7 : Hid (OwnP w.heap.size w7 (.slice ga rn ca) (bndM r ps ts 0) ∧ (bndM r ps ts 0).length = rn) := Lib.hid ⟨ownP_kept OZ.out.1 hb7, OZ.out.2⟩
    have HZ7 := Lib.hid (HZ.out.next hb7)
    have B7 := HB.out.trans (hb7.mono HB.out.size)
    clear hb7 CT d0 d1 d2 OZ HZ HX HB
    go_wp2_with fail
    go_loopw [7, 19] (fun o i wr => ∃ k : Nat, k ≤ 3 ∧ i = .int .i64 k ∧ (∃ g n' c', o = .slice g n' c' ∧ n' ≤ n + k ∧ Hid (OwnP w.heap.size wr (.slice g n' c') (bndM r ps ts k) ∧ (bndM r ps ts k).length = n')) ∧ Hid (Box wr gb (.string p1) (.string p2) (.string p3) 116) ∧ Below w.heap.size w wr) (fun _ i _ => 3 - (intOf i).toNat)
    case atStart => exact ⟨0, Nat.zero_le _, rfl, ⟨_, _, _, rfl, hrn, OZ7⟩, HZ7, B7⟩
    case round =>
      obtain ⟨k, hk, rfl, ⟨g', n', c', rfl, hn', HQQ⟩, HZ, hnx⟩ := hrel
      clear OZ7 HZ7 B7 hrn
      have hk6 : (0 : Int) ≤ (k : Int) := by omega
      by_cases hlt : k < 3
      · have hxx : ps[k]? = some (ps[k]'(by omega)) := List.getElem?_eq_getElem (by omega)
        have hyy : ts[k]? = some (ts[k]'(by omega)) := List.getElem?_eq_getElem (by omega)
        generalize ps[k]'(by omega) = x at hxx
        generalize ts[k]'(by omega) = y at hyy
        have hx1 := HPW.out k x hxx
        have hy1 := HTW.out k y hyy
        have cx := HBW.out _ HZ.out k x (by rw [HPS.out]; exact hxx)
        have hidx := HIX.out k y hyy
        have HN := Lib.hid (bndM_next (r := r) hxx hyy)
        have HXX := Lib.hid hxx
        have hasc := HASC.out k
        have hsm := HSM.out k (by omega)
        have HNX2 := Lib.hid (HSM.out (k + 1) (by omega))
        have hk7 : (k : Int) < 3 := by omega
        generalize bndM r ps ts k = q at HQQ HN hasc hsm
        have hq2 := HQQ.out.2
        have CP := Lib.hid (fun W (hW : Below wr.heap.size wr W) => implPlaceIn g' n' c' q x W (by
          obtain ⟨a9, c9, e9, i9⟩ := HQQ.out.1.is (fun t ht => by have := hsm t ht; unfold maxLen; omega)
          rw [hq2] at e9 i9
          cases e9
          exact i9.next hW) hasc (by omega))
        have CV' := implIsVar x (by omega)
        obtain ⟨qv, hqv⟩ : ∃ qv, isVarK x.data.toList = qv := ⟨_, rfl⟩
        rw [hqv] at CV'
        have CV := Lib.hid CV'
        have HV := Lib.hid hqv
        have HSMQ := Lib.hid hsm
        clear CV' hqv hxx hyy hasc hsm
        go_wp2_with fail
        clear hidx
        refine (CP.out _ (by first | exact Below.refl _ _ | exact Below.drew (Below.refl _ _))).mono ?_
        rintro e w8 ⟨lo, f, rfl, hlo, hpos, hyes, hno, hb8⟩
        have hb8' : Below wr.heap.size wr w8 := by first | exact hb8 | exact (Below.drew (Below.refl _ _)).trans hb8
        have B8 := hnx.trans (hb8'.mono hnx.size)
        have HZ8 := Lib.hid (HZ.out.next hb8')
        have HO8 := Lib.hid (ownP_kept HQQ.out.1 hb8')
        have cx8 := HBW.out _ HZ8.out k x (by rw [HPS.out]; exact HXX.out)
        have HYN := Lib.hid (And.intro hyes hno)
        have HPO := Lib.hid (And.intro hlo hpos)
        have hqn := HQQ.out.2
        clear hb8 hb8' hnx CP cx HZ HQQ hyes hno hpos
        go_wp2_with fail
        refine (CV.out _).mono ?_
        rintro e w9 ⟨rfl, hb9⟩
        have B9 := B8.trans (hb9.mono B8.size)
        have HZ9 := Lib.hid (HZ8.out.next hb9)
        have HO9 := Lib.hid (ownP_kept HO8.out hb9)
        have cx9 := HBW.out _ HZ9.out k x (by rw [HPS.out]; exact HXX.out)
        clear hb9 CV cx8 HZ8 HO8 B8
        by_cases hins : qv = true ∧ f = false
        · obtain ⟨rfl, rfl⟩ := hins
          have hdm : inDom q x = false := by
            cases g : inDom q x
            · rfl
            · obtain ⟨u, hu, hux⟩ := List.mem_map.1 (inDom_iff.1 g)
              exact absurd hux (HYN.out.2 rfl u hu)
          have HS : Hid (bndM r ps ts (k + 1) = (q.take lo ++ [(x, y)]) ++ q.drop lo) := Lib.hid (by
            rw [HN.out]; unfold stepB; rw [if_pos ⟨HV.out, hdm⟩]; unfold insP; rw [HPO.out.2])
          have V0 := Box2.new w9 (.string x) (.string y) 55
          have OV := World.ownsRow.alloc HO9.out (.cells #[.string x, .string y] 55)
          have BV := B9.alloc B9.size (.cells #[.string x, .string y] 55)
          have hlt5 := fun j hj => (World.ownsRow.lt HO9.out j hj)
          have CI := Lib.hid (insPair w.heap.size (.slice g' n' c') q (x, y) lo (w9.alloc (.cells #[.string x, .string y] 55)) w9.heap.size 55 OV BV.size V0 (fun e => by have := (hlt5 _ e).2; omega) (by omega) hlo)
          have HBV := Lib.hid BV
          have HZV := Lib.hid (HZ9.out.alloc (.cells #[.string x, .string y] 55))
          have HNE := Lib.hid (own_box_ne HO9.out HZ9.out hT)
          clear OV BV V0 hdm HZ9 B9
          go_wp2_with fail
          refine CI.out.mono ?_
          rintro e w6 ⟨v6, rfl, o6, hg6⟩
          have B6 := HBV.out.grown hg6 HBV.out.size (fun j hj => (hlt5 j hj).1)
          have HZ6 := Lib.hid (HZV.out.grown hg6 (fun e => HNE.out e.symm))
          rw [← HS.out] at o6
          obtain ⟨g6, c6, hv6, _⟩ := o6.is (fun u hu => by have := HNX2.out u hu; unfold maxLen; omega)
          subst hv6
          have hl6 : (bndM r ps ts (k + 1)).length ≤ n + (k + 1) := by rw [HN.out]; have := stepB_len q x y; omega
          obtain ⟨n6, hn6⟩ : ∃ n6, (bndM r ps ts (k + 1)).length = n6 := ⟨_, rfl⟩
          rw [hn6] at o6 hl6 ⊢
          have HO6 : Hid (OwnP w.heap.size w6 (.slice g6 n6 c6) (bndM r ps ts (k + 1)) ∧ (bndM r ps ts (k + 1)).length = n6) := Lib.hid ⟨o6, hn6⟩
          clear hn6
          clear CI hg6 o6 HBV HZV hlt5 HNE HO9 HS
          go_wp2_with fail
          go_roundw
          case rel => exact ⟨k + 1, by omega, by go_num, ⟨g6, _, c6, rfl, hl6, HO6⟩, HZ6, B6⟩
          case measure => simp [intOf]; omega
        · have HS : Hid (bndM r ps ts (k + 1) = q) := Lib.hid (by
            rw [HN.out]; unfold stepB; rw [if_neg]
            rintro ⟨h1, h2⟩
            refine hins ⟨by rw [← HV.out]; exact h1, ?_⟩
            cases f
            · rfl
            · obtain ⟨u, hu, hux⟩ := HYN.out.1 rfl
              have : inDom q x = true := inDom_iff.2 (List.mem_map.2 ⟨u, List.mem_of_getElem? hu, hux⟩)
              rw [h2] at this; cases this)
          have HO6 : Hid (OwnP w.heap.size w9 (.slice g' n' c') (bndM r ps ts (k + 1)) ∧ (bndM r ps ts (k + 1)).length = n') := Lib.hid (by rw [HS.out]; exact ⟨HO9.out, hqn⟩)
          clear HO9 HS
          cases qv <;> cases f
          case' true.false => exact absurd ⟨rfl, rfl⟩ hins
          all_goals
            clear hins
            go_wp2_with fail
            go_roundw
            case rel => exact ⟨k + 1, by omega, by go_num, ⟨g', n', c', rfl, by omega, HO6⟩, HZ9, B9⟩
            case measure => simp [intOf]; omega
      · have HF : Hid (OwnP w.heap.size wr (.slice g' n' c') (boundM r (p1, p2, p3) (t1, t2, t3))) := Lib.hid (by
          rw [HBD.out]
          have h1 := HQQ.out.1
          have e : k = 3 := by omega
          rw [e] at h1
          exact h1)
        clear HQQ
        go_wp2_with fail
        go_ret
        exact ⟨.slice g' n' c', rfl, HF.out, hnx⟩
end Go.Proofs.YtiajdnhmjdfeeaaGreat
namespace Go.Proofs.YtiajdnhmjdfeeaaGreat
open Go.RowKit Go.WideShapes
def alikeB (a t : Tri3) : Bool := (!(a.1.toList == a.2.1.toList) || t.1.toList == t.2.1.toList) && ((!(a.1.toList == a.2.2.toList) || t.1.toList == t.2.2.toList) && (!(a.2.1.toList == a.2.2.toList) || t.2.1.toList == t.2.2.toList))
set_option maxRecDepth 100000 in
set_option maxHeartbeats 3200000 in
theorem implAlike (a t : Tri3) (w : World) : Calls Tryz.prog 160 #[.agg #[.string a.1, .string a.2.1, .string a.2.2], .agg #[.string t.1, .string t.2.1, .string t.2.2]] w fun e w' => e = .returned (.bool (alikeB a t)) ∧ Below w.heap.size w w' := by
  obtain ⟨a1, a2, a3⟩ := a
  obtain ⟨t1, t2, t3⟩ := t
  unfold alikeB
  dsimp only
  have E1 := Box.new w (.string a1) (.string a2) (.string a3) 65
  have B1 := (Below.refl w.heap.size w).alloc (Nat.le_refl _) (.cells #[.string a1, .string a2, .string a3] 65)
  have E2 := Box.new (w.alloc (.cells #[.string a1, .string a2, .string a3] 65)) (.string t1) (.string t2) (.string t3) 65
  have E1' := E1.alloc (.cells #[.string t1, .string t2, .string t3] 65)
  have B2 := B1.alloc B1.size (.cells #[.string t1, .string t2, .string t3] 65)
  obtain ⟨x0, x1, x2⟩ := E1'.cells
  obtain ⟨y0, y1, y2⟩ := E2.cells
  cases b1 : (a1.toList == a2.toList) <;> cases d1 : (t1.toList == t2.toList) <;> cases b2 : (a1.toList == a3.toList) <;> cases d2 : (t1.toList == t3.toList) <;> cases b3 : (a2.toList == a3.toList) <;> cases d3 : (t2.toList == t3.toList)
  all_goals
    go_enter Tryz.func160, Tryz.ntmps160
    go_wp2_with fail
    go_ret
    exact ⟨rfl, B2⟩
end Go.Proofs.YtiajdnhmjdfeeaaGreat
namespace Go.Proofs.YtiajdnhmjdfeeaaGreat
open Go.RowKit Go.WideShapes
/-- A pattern's first k places. -/
def upM (r : RowV) (ps ts : List ByteArray) : Nat → Option RowV
  | 0 => some r
  | k + 1 => (upM r ps ts k).bind fun a => stepM a (ps[k]?.getD ⟨#[]⟩) (ts[k]?.getD ⟨#[]⟩)
theorem matchM_up (r : RowV) (p t : Tri3) : matchM r p t = upM r (wordsT p) (wordsT t) 3 := by simp [matchM, upM, wordsT]
theorem upM_next {r q : RowV} {ps ts : List ByteArray} {k : Nat} {x y : ByteArray} (h : upM r ps ts k = some q) (hx : ps[k]? = some x) (hy : ts[k]? = some y) : upM r ps ts (k + 1) = stepM q x y := by
  simp only [upM, h, hx, hy, Option.bind_some, Option.getD_some]
theorem upM_stop {r : RowV} {ps ts : List ByteArray} {k : Nat} (h : upM r ps ts k = none) : ∀ n, k ≤ n → upM r ps ts n = none := by
  intro n hn
  induction n with
  | zero => obtain rfl : k = 0 := by omega
            exact h
  | succ n ih =>
    rcases Nat.lt_or_eq_of_le hn with g | rfl
    · simp only [upM, ih (by omega), Option.bind_none]
    · exact h
def MatchPost (r : RowV) (p t : Tri3) (w : World) (e : Ending) (w' : World) : Prop :=
  ∃ v, e = .returned (.tuple #[v, .bool (matchM r p t).isSome]) ∧ OwnP w.heap.size w' v ((matchM r p t).getD []) ∧ Below w.heap.size w w'
set_option maxRecDepth 100000 in
set_option maxHeartbeats 3200000 in
theorem specMatch (a : Option Addr) (n c : Nat) (r : RowV) (p t : Tri3) (w : World) (h : IsPres w a n c r) (hn : n ≤ 1000) (hp : p.1.size ≤ 2097152 ∧ p.2.1.size ≤ 2097152 ∧ p.2.2.size ≤ 2097152) :
    Calls Tryz.prog 102 #[.slice a n c, .agg #[.string p.1, .string p.2.1, .string p.2.2], .agg #[.string t.1, .string t.2.1, .string t.2.2]] w (MatchPost r p t w) := by
  obtain ⟨i0, hi, hz0, hz1, hz2⟩ := info_parts infoPair
  obtain ⟨p1, p2, p3⟩ := p
  obtain ⟨t1, t2, t3⟩ := t
  have HX := Lib.hid (word_small hp)
  dsimp only
  have HL := Lib.hid h.len
  have HQ : Hid (matchM r (p1, p2, p3) (t1, t2, t3) = upM r (wordsT (p1, p2, p3)) (wordsT (t1, t2, t3)) 3) := Lib.hid (matchM_up _ _ _)
  have E1 := Box.new w (.string p1) (.string p2) (.string p3) 65
  have B1 := (Below.refl w.heap.size w).alloc (Nat.le_refl _) (.cells #[.string p1, .string p2, .string p3] 65)
  have E2 := Box.new (w.alloc (.cells #[.string p1, .string p2, .string p3] 65)) (.string t1) (.string t2) (.string t3) 65
  have E1' := E1.alloc (.cells #[.string t1, .string t2, .string t3] 65)
  have B2 := B1.alloc B1.size (.cells #[.string t1, .string t2, .string t3] 65)
  obtain ⟨x0, x1, x2⟩ := E1'.cells
  obtain ⟨y0, y1, y2⟩ := E2.cells
  have hW2 : ((w.alloc (.cells #[.string p1, .string p2, .string p3] 65)).alloc (.cells #[.string t1, .string t2, .string t3] 65)).heap.size = w.heap.size + 1 + 1 := by simp
  obtain ⟨W2, hW⟩ : ∃ W2, (w.alloc (.cells #[.string p1, .string p2, .string p3] 65)).alloc (.cells #[.string t1, .string t2, .string t3] 65) = W2 := ⟨_, rfl⟩
  have E3 := Box.new W2 (.string p1) (.string p2) (.string p3) 9
  have B3 := (hW ▸ B2 : Below w.heap.size w W2).alloc (by rw [← hW]; exact B2.size) (.cells #[.string p1, .string p2, .string p3] 9)
  have E4 := Box.new (W2.alloc (.cells #[.string p1, .string p2, .string p3] 9)) (.string t1) (.string t2) (.string t3) 9
  have E3' := (E3.alloc (.cells #[.string t1, .string t2, .string t3] 9)).alloc (.cells #[] 55)
  have E4' := E4.alloc (.cells #[] 55)
  have B4 := B3.alloc B3.size (.cells #[.string t1, .string t2, .string t3] 9)
  have B5 := B4.alloc B4.size (.cells #[] 55)
  have O5 : OwnP w.heap.size (((W2.alloc (.cells #[.string p1, .string p2, .string p3] 9)).alloc (.cells #[.string t1, .string t2, .string t3] 9)).alloc (.cells #[] 55)) (.slice (some ⟨((W2.alloc (.cells #[.string p1, .string p2, .string p3] 9)).alloc (.cells #[.string t1, .string t2, .string t3] 9)).heap.size, 0, none⟩) 0 0) [] := World.ownsRow_lit (size := 2) (e := 55) _ #[] 0 B4.size (by decide) rfl
  have hr := h.next B5
  rw [World.size_alloc] at E4'
  rw [World.size_alloc, World.size_alloc] at O5
  subst hW
  rw [hW2] at E3' E4' O5
  have HP3 := Lib.hid E3'
  have HP4 := Lib.hid E4'
  have HO := Lib.hid O5
  have HB5 := Lib.hid B5
  clear h hp E1 E1' E2 B1 B2 B3 B4 B5 E3 E3' E4 E4' O5 hW2
  go_enter Tryz.func102, Tryz.ntmps102
  rcases hr with ⟨rfl, rfl, rfl, hr0⟩ | ⟨x, rfl, h1, h2, h3, h4⟩
  case' inl =>
    have OZ : Hid (∃ q, upM r (wordsT (p1, p2, p3)) (wordsT (t1, t2, t3)) 0 = some q ∧ OwnP w.heap.size _ _ q ∧ q.length = 0) := Lib.hid ⟨[], by rw [hr0]; rfl, HO.out, rfl⟩
    have HN0 : (0 : Nat) ≤ 1000 + 0 := by omega
    clear hr0 HO hn
    go_wp2_with fail
    generalize w.heap.size + 1 + 1 + 1 + 1 = ob at OZ ⊢
    generalize w.heap.size + 1 + 1 + 1 = tb at HP4 ⊢
    generalize w.heap.size + 1 + 1 = pb at HP3 ⊢
    generalize ((((w.alloc (.cells #[.string p1, .string p2, .string p3] 65)).alloc (.cells #[.string t1, .string t2, .string t3] 65)).alloc (.cells #[.string p1, .string p2, .string p3] 9)).alloc (.cells #[.string t1, .string t2, .string t3] 9)).alloc (.cells #[] 55) = wz at OZ HP3 HP4 HB5 ⊢
  case' inr =>
    have A := Lib.hid (fun j u hj => pres_news h4 j u hj)
    have H3 := Lib.hid h3
    have HF2 := Lib.hid (flatP_one r)
    clear h4 h3
    go_wp2_with (at_builtin; refine wpList_append_own_at _ rfl _ _ 50 rfl w.heap.size 55 i0 (.agg #[.string ⟨#[]⟩, .string ⟨#[]⟩]) 2 32 Tryz.underlying50 hi hz0 hz1 hz2 rfl (by decide) _ _ _ rfl HO.out x n c (flatP r) rfl (by rw [flatP_len, H3.out]) A.out HF2.out ?qc4 ?qc5 ?qc6 ?_)
    case qc4 => (try rw [List.length_nil]); unfold maxLen; omega
    case qc5 => (try rw [List.length_nil]); omega
    case qc6 => omega
    intro uz wz hown hgrow hnn _
    have HU5 : OwnP w.heap.size wz uz r := by unfold OwnP; rw [H3.out]; simpa [flatP] using hown
    obtain ⟨ob, cq, rfl⟩ : ∃ g c, uz = .slice (some ⟨g, 0, none⟩) n c := by
      rcases hown.2 with ⟨e, _⟩ | ⟨g, c, cur, e, _⟩
      · exact absurd e (by simpa using hnn)
      · refine ⟨g, c, ?_⟩; simpa using e
    have OZ : Hid (∃ q, upM r (wordsT (p1, p2, p3)) (wordsT (t1, t2, t3)) 0 = some q ∧ OwnP w.heap.size wz (.slice (some ⟨ob, 0, none⟩) n cq) q ∧ q.length = n) := Lib.hid ⟨r, rfl, HU5, H3.out⟩
    have HN0 : n ≤ 1000 + 0 := by omega
    have HB5 := Lib.hid (HB5.out.grown hgrow HB5.out.size (fun j hj => by simp [Value.ownBlock] at hj; omega))
    have HP3 := Lib.hid (HP3.out.grown hgrow (by simp [Value.ownBlock]))
    have HP4 := Lib.hid (HP4.out.grown hgrow (by simp [Value.ownBlock]))
    clear hown hgrow hnn HU5 HO A H3 HF2 hn h1 h2
    go_wp2_with fail
    generalize w.heap.size + 1 + 1 + 1 = tb at HP4 ⊢
    generalize w.heap.size + 1 + 1 = pb at HP3 ⊢
  all_goals
    have HBW := Lib.hid (fun (W : World) (hb : Box W pb (.string p1) (.string p2) (.string p3) 9) => box_word hb)
    have HTW := Lib.hid (fun (W : World) (hb : Box W tb (.string t1) (.string t2) (.string t3) 9) => box_word hb)
    obtain ⟨ps, hps⟩ : ∃ l, wordsT (p1, p2, p3) = l := ⟨_, rfl⟩
    obtain ⟨ts, hts⟩ : ∃ l, wordsT (t1, t2, t3) = l := ⟨_, rfl⟩
    have hpl : ps.length = 3 := by rw [← hps]; rfl
    have htl : ts.length = 3 := by rw [← hts]; rfl
    rw [hps] at HX OZ HQ
    rw [hts] at OZ HQ
    have HPS := Lib.hid hps
    have HTS := Lib.hid hts
    clear hps hts
    unfold MatchPost
    rw [HQ.out]
    go_loopw [10, 11] (fun o i wr => ∃ k : Nat, k ≤ 3 ∧ i = .int .i64 k ∧ (∃ g n c, o = .slice (some ⟨g, 0, none⟩) n c ∧ n ≤ 1000 + k ∧ Hid (∃ q, upM r ps ts k = some q ∧ OwnP w.heap.size wr o q ∧ q.length = n)) ∧ Hid (Box wr pb (.string p1) (.string p2) (.string p3) 9) ∧ Hid (Box wr tb (.string t1) (.string t2) (.string t3) 9) ∧ Below w.heap.size w wr) (fun _ i _ => 3 - (intOf i).toNat)
    case atStart => exact ⟨0, Nat.zero_le _, rfl, ⟨_, _, _, rfl, HN0, OZ⟩, HP3, HP4, HB5.out⟩
    case round =>
      obtain ⟨k, hk, rfl, ⟨g', n', c', rfl, hn', HQQ⟩, HP, HT, hnx⟩ := hrel
      clear OZ HP3 HP4 HB5 HN0
      obtain ⟨q, hq1, hq2, hq3⟩ := HQQ.out
      have hq1' := Lib.hid hq1
      have hq2' := Lib.hid hq2
      have hq3' := Lib.hid hq3
      have hk6 : (0 : Int) ≤ (k : Int) := by omega
      by_cases hlt : k < 3
      · have hxx : ps[k]? = some (ps[k]'(by omega)) := List.getElem?_eq_getElem (by omega)
        have hyy : ts[k]? = some (ts[k]'(by omega)) := List.getElem?_eq_getElem (by omega)
        generalize ps[k]'(by omega) = x at hxx
        generalize ts[k]'(by omega) = y at hyy
        have hx1 := HX.out k x hxx
        have cx := HBW.out _ HP.out k x (by rw [HPS.out]; exact hxx)
        have cy := HTW.out _ HT.out k y (by rw [HTS.out]; exact hyy)
        have HUP := Lib.hid (upM_next hq1 hxx hyy)
        have CV' := specKindOf x hx1
        have hk7 : (k : Int) < 3 := by omega
        have EK : (kindL x.data.toList = 4 ∧ isVarK x.data.toList = true) ∨ (((kindL x.data.toList : Nat) : Int) ≠ 4 ∧ isVarK x.data.toList = false) := by
          unfold isVarK
          by_cases g : kindL x.data.toList = 4
          · exact .inl ⟨g, by simp [g]⟩
          · exact .inr ⟨by omega, by simp [g]⟩
        generalize kindL x.data.toList = kk at CV' EK
        have CV := Lib.hid CV'
        have HXX := Lib.hid hxx
        have HYY := Lib.hid hyy
        clear CV' hxx hyy hq1 hq2 hq3 HQQ
        rcases EK with ⟨rfl, e2⟩ | ⟨e1, e2⟩
        · have HV := Lib.hid e2
          go_wp2_with fail
          refine (CV.out _).mono ?_
          rintro e w4 ⟨rfl, hb4⟩
          have B4 := hnx.trans (hb4.mono hnx.size)
          have HP := Lib.hid (HP.out.next hb4)
          have HT := Lib.hid (HT.out.next hb4)
          have hq4 := ownP_kept hq2'.out hb4
          have c1 := HBW.out _ HP.out k x (by rw [HPS.out]; exact HXX.out)
          have d1 := HTW.out _ HT.out k y (by rw [HTS.out]; exact HYY.out)
          have l1 := HP.out.lt
          have l2 := HT.out.lt
          have CP := Lib.hid (specPutP w.heap.size g' n' c' q x y w4.drew (World.ownsRow.drew hq4) hq3'.out (by omega) B4.size)
          have BD := Lib.hid B4.drew
          have c1d : w4.drew.cell? ⟨pb, k, none⟩ = some (.string x) := c1
          have d1d : w4.drew.cell? ⟨tb, k, none⟩ = some (.string y) := d1
          have HUP2 : Hid (upM r ps ts (k + 1) = putP q (x, y)) := Lib.hid (by rw [HUP.out]; unfold stepM; rw [if_pos HV.out])
          clear hb4 hnx CV cx cy c1 d1 hq4 B4
          go_wp2_with fail
          go_region_held3 (fun w' => w'.cell? ⟨pb, k, none⟩ = some (.string x) ∧ w'.cell? ⟨tb, k, none⟩ = some (.string y))
            (first | go_keep | (have q0 := (hb5.cell (p := ⟨pb, k, none⟩) l1).trans c1d; have q1 := (hb5.cell (p := ⟨tb, k, none⟩) l2).trans d1d; with_reducible exact ⟨q0, q1⟩))
            (first | (go_at_call 143; refine CP.out.mono ?_; rintro e w5 ⟨g2, n2, c2, f, rfl, hyes, hno, hb5⟩))
          have B5 := BD.out.trans (hb5.mono BD.out.size)
          have HP5 := Lib.hid (HP.out.drew.next hb5)
          have HT5 := Lib.hid (HT.out.drew.next hb5)
          clear hb5 CP c1d d1d
          cases f
          · have HN : Hid (upM r ps ts 3 = none) := Lib.hid (upM_stop (by rw [HUP2.out]; exact hno rfl) 3 (by omega))
            clear hyes hno
            go_wp2_with fail
            go_ret2
            exact ⟨.slice none 0 0, by rw [HN.out]; rfl, by rw [HN.out]; exact World.ownsRow_nil .., B5⟩
          · obtain ⟨h, hh1, hh2, hh3⟩ := hyes rfl
            have HN : Hid (∃ q, upM r ps ts (k + 1) = some q ∧ OwnP w.heap.size w5 (.slice (some ⟨g2, 0, none⟩) n2 c2) q ∧ q.length = n2) := Lib.hid ⟨h, by rw [HUP2.out]; exact hh1, hh2, hh3⟩
            have hnl : n2 ≤ 1000 + (k + 1) := by have := putP_len hh1; have := hq3'.out; omega
            clear hyes hno hh1 hh2 hh3
            go_wp2_with fail
            go_roundw
            case rel => exact ⟨k + 1, by omega, by go_num, ⟨g2, n2, c2, rfl, hnl, HN⟩, HP5, HT5, B5⟩
            case measure => simp [intOf]; omega
        · have e3 : ((kk : Int) != 4) = true := by simpa using e1
          have e4 : ((kk : Int) == 4) = false := by simpa using e1
          have HUP2 : Hid (upM r ps ts (k + 1) = if x = y then some q else none) := Lib.hid (by rw [HUP.out]; unfold stepM; rw [if_neg (by rw [e2]; simp)])
          clear e2
          go_wp2_with fail
          refine (CV.out _).mono ?_
          rintro e w4 ⟨rfl, hb4⟩
          have B4 := hnx.trans (hb4.mono hnx.size)
          have HP := Lib.hid (HP.out.next hb4)
          have HT := Lib.hid (HT.out.next hb4)
          have hq4 := Lib.hid (ownP_kept hq2'.out hb4)
          have c1 := HBW.out _ HP.out k x (by rw [HPS.out]; exact HXX.out)
          have d1 := HTW.out _ HT.out k y (by rw [HTS.out]; exact HYY.out)
          clear hb4 hnx CV cx cy
          by_cases hxy : x = y
          · have heq : (x.toList == y.toList) = true := by rw [hxy]; simp
            have HN : Hid (upM r ps ts (k + 1) = some q) := Lib.hid (by rw [HUP2.out, if_pos hxy])
            clear hxy
            go_wp2_with fail
            go_quiet (fail)
            have BD := drewN_below nq B4
            have HP := Lib.hid (HP.out.next (drewN_below nq (Below.refl w4.heap.size w4)))
            have HT := Lib.hid (HT.out.next (drewN_below nq (Below.refl w4.heap.size w4)))
            have HN2 : Hid (∃ q, upM r ps ts (k + 1) = some q ∧ OwnP w.heap.size (w4.drewN nq) (.slice (some ⟨g', 0, none⟩) n' c') q ∧ q.length = n') := Lib.hid ⟨q, HN.out, ownP_kept hq4.out (drewN_below nq (Below.refl w4.heap.size w4)), hq3'.out⟩
            clear B4 c1 d1 hq4 HN
            generalize w4.drewN nq = wd at BD HP HT HN2 ⊢
            go_wp2_with fail
            go_roundw
            case rel => exact ⟨k + 1, by omega, by go_num, ⟨g', n', c', rfl, by omega, HN2⟩, HP, HT, BD⟩
            case measure => simp [intOf]; omega
          · have heq : (x.toList == y.toList) = false := bl_eqn hxy
            have HN : Hid (upM r ps ts 3 = none) := Lib.hid (upM_stop (k := k + 1) (by rw [HUP2.out, if_neg hxy]) 3 (by omega))
            clear hxy
            go_wp2_with fail
            go_quiet (fail)
            have BD := drewN_below nq B4
            clear B4 c1 d1 hq4
            generalize w4.drewN nq = wd at BD ⊢
            go_wp2_with fail
            go_ret2
            exact ⟨.slice none 0 0, by rw [HN.out]; rfl, by rw [HN.out]; exact World.ownsRow_nil .., BD⟩
      · have hk3 : k = 3 := by omega
        have HF : Hid (upM r ps ts 3 = some q) := Lib.hid (by rw [← hk3]; exact hq1'.out)
        clear hq1 hq2 hq3 HQQ hk3
        go_wp2_with fail
        go_ret2
        exact ⟨.slice (some ⟨g', 0, none⟩) n' c', by first | (rw [HF.out]; rfl) | (rw [HQ.out, HF.out]; rfl), by first | (rw [HF.out]; exact hq2'.out) | (rw [HQ.out, HF.out]; exact hq2'.out), hnx⟩
end Go.Proofs.YtiajdnhmjdfeeaaGreat
