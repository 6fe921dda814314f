/- Alike where alike: the program's own test. -/
import Derived.Test.YtbhlenjcahonnaaGreatJExactSolutions29
import Derived.Test.YtbhlenjcahonnaaGreatJExactSolutions02
import Derived.Test.YtbhlenjcahonnaaGreatJExactSolutions35
import Derived.Test.YtbhlenjcahonnaaGreatJExactSolutions10
import Derived.Test.YtbhlenjcahonnaaGreatJExactSolutions34
import Derived.Deep.RegionHeld3
import Derived.Laws.AppendOwnNone
import Derived.Test.YtbhlenjcahonnaaGreatJExactSolutions16
namespace Go.Proofs.YtbhlenjcahonnaaGreat
open Go.RowKit Go.WideShapes
def alikeB (a t : Tri3) : Bool := (!(a.1.toList == a.2.1.toList) || t.1.toList == t.2.1.toList) && ((!(a.1.toList == a.2.2.toList) || t.1.toList == t.2.2.toList) && (!(a.2.1.toList == a.2.2.toList) || t.2.1.toList == t.2.2.toList))
set_option maxRecDepth 100000 in
set_option maxHeartbeats 3200000 in
theorem implAlike (a t : Tri3) (w : World) : Calls Tryz.prog 120 #[.agg #[.string a.1, .string a.2.1, .string a.2.2], .agg #[.string t.1, .string t.2.1, .string t.2.2]] w fun e w' => e = .returned (.bool (alikeB a t)) ∧ Below w.heap.size w w' := by
  obtain ⟨a1, a2, a3⟩ := a
  obtain ⟨t1, t2, t3⟩ := t
  unfold alikeB
  dsimp only
  have E1 := Box.new w (.string a1) (.string a2) (.string a3) 79
  have B1 := (Below.refl w.heap.size w).alloc (Nat.le_refl _) (.cells #[.string a1, .string a2, .string a3] 79)
  have E2 := Box.new (w.alloc (.cells #[.string a1, .string a2, .string a3] 79)) (.string t1) (.string t2) (.string t3) 79
  have E1' := E1.alloc (.cells #[.string t1, .string t2, .string t3] 79)
  have B2 := B1.alloc B1.size (.cells #[.string t1, .string t2, .string t3] 79)
  obtain ⟨x0, x1, x2⟩ := E1'.cells
  obtain ⟨y0, y1, y2⟩ := E2.cells
  cases b1 : (a1.toList == a2.toList) <;> cases d1 : (t1.toList == t2.toList) <;> cases b2 : (a1.toList == a3.toList) <;> cases d2 : (t1.toList == t3.toList) <;> cases b3 : (a2.toList == a3.toList) <;> cases d3 : (t2.toList == t3.toList)
  all_goals
    go_enter Tryz.func120, Tryz.ntmps120
    go_wp2_with fail
    go_ret
    exact ⟨rfl, B2⟩
end Go.Proofs.YtbhlenjcahonnaaGreat
/- A row and a pattern: the specification's own l5Match. -/
namespace Go.Proofs.YtbhlenjcahonnaaGreat
open Go.RowKit Go.WideShapes
/-- A pattern's first k places. -/
def upM (r : RowV) (ps ts : List ByteArray) : Nat → Option RowV
  | 0 => some r
  | k + 1 => (upM r ps ts k).bind fun a => stepM a (ps[k]?.getD ⟨#[]⟩) (ts[k]?.getD ⟨#[]⟩)
theorem matchM_up (r : RowV) (p t : Tri3) : matchM r p t = upM r (wordsT p) (wordsT t) 3 := by simp [matchM, upM, wordsT]
theorem upM_next {r q : RowV} {ps ts : List ByteArray} {k : Nat} {x y : ByteArray} (h : upM r ps ts k = some q) (hx : ps[k]? = some x) (hy : ts[k]? = some y) : upM r ps ts (k + 1) = stepM q x y := by
  simp only [upM, h, hx, hy, Option.bind_some, Option.getD_some]
theorem upM_stop {r : RowV} {ps ts : List ByteArray} {k : Nat} (h : upM r ps ts k = none) : ∀ n, k ≤ n → upM r ps ts n = none := by
  intro n hn
  induction n with
  | zero => obtain rfl : k = 0 := by omega
            exact h
  | succ n ih =>
    rcases Nat.lt_or_eq_of_le hn with g | rfl
    · simp only [upM, ih (by omega), Option.bind_none]
    · exact h
def MatchPost (r : RowV) (p t : Tri3) (w : World) (e : Ending) (w' : World) : Prop :=
  ∃ v, e = .returned (.tuple #[v, .bool (matchM r p t).isSome]) ∧ OwnP w.heap.size w' v ((matchM r p t).getD []) ∧ Below w.heap.size w w'
set_option maxRecDepth 100000 in
set_option maxHeartbeats 3200000 in
theorem specMatch (a : Option Addr) (n c : Nat) (r : RowV) (p t : Tri3) (w : World) (h : IsPres w a n c r) (hn : n ≤ 1000) (hp : p.1.size ≤ 2097152 ∧ p.2.1.size ≤ 2097152 ∧ p.2.2.size ≤ 2097152) :
    Calls Tryz.prog 86 #[.slice a n c, .agg #[.string p.1, .string p.2.1, .string p.2.2], .agg #[.string t.1, .string t.2.1, .string t.2.2]] w (MatchPost r p t w) := by
  obtain ⟨i0, hi, hz0, hz1, hz2⟩ := info_parts infoPair
  obtain ⟨p1, p2, p3⟩ := p
  obtain ⟨t1, t2, t3⟩ := t
  have HX := Lib.hid (word_small hp)
  dsimp only
  have HL := Lib.hid h.len
  have HQ : Hid (matchM r (p1, p2, p3) (t1, t2, t3) = upM r (wordsT (p1, p2, p3)) (wordsT (t1, t2, t3)) 3) := Lib.hid (matchM_up _ _ _)
  have E1 := Box.new w (.string p1) (.string p2) (.string p3) 79
  have B1 := (Below.refl w.heap.size w).alloc (Nat.le_refl _) (.cells #[.string p1, .string p2, .string p3] 79)
  have E2 := Box.new (w.alloc (.cells #[.string p1, .string p2, .string p3] 79)) (.string t1) (.string t2) (.string t3) 79
  have E1' := E1.alloc (.cells #[.string t1, .string t2, .string t3] 79)
  have B2 := B1.alloc B1.size (.cells #[.string t1, .string t2, .string t3] 79)
  obtain ⟨x0, x1, x2⟩ := E1'.cells
  obtain ⟨y0, y1, y2⟩ := E2.cells
  have hW2 : ((w.alloc (.cells #[.string p1, .string p2, .string p3] 79)).alloc (.cells #[.string t1, .string t2, .string t3] 79)).heap.size = w.heap.size + 1 + 1 := by simp
  obtain ⟨W2, hW⟩ : ∃ W2, (w.alloc (.cells #[.string p1, .string p2, .string p3] 79)).alloc (.cells #[.string t1, .string t2, .string t3] 79) = W2 := ⟨_, rfl⟩
  have E3 := Box.new W2 (.string p1) (.string p2) (.string p3) 9
  have B3 := (hW ▸ B2 : Below w.heap.size w W2).alloc (by rw [← hW]; exact B2.size) (.cells #[.string p1, .string p2, .string p3] 9)
  have E4 := Box.new (W2.alloc (.cells #[.string p1, .string p2, .string p3] 9)) (.string t1) (.string t2) (.string t3) 9
  have E3' := (E3.alloc (.cells #[.string t1, .string t2, .string t3] 9)).alloc (.cells #[] 34)
  have E4' := E4.alloc (.cells #[] 34)
  have B4 := B3.alloc B3.size (.cells #[.string t1, .string t2, .string t3] 9)
  have B5 := B4.alloc B4.size (.cells #[] 34)
  have O5 : OwnP w.heap.size (((W2.alloc (.cells #[.string p1, .string p2, .string p3] 9)).alloc (.cells #[.string t1, .string t2, .string t3] 9)).alloc (.cells #[] 34)) (.slice (some ⟨((W2.alloc (.cells #[.string p1, .string p2, .string p3] 9)).alloc (.cells #[.string t1, .string t2, .string t3] 9)).heap.size, 0, none⟩) 0 0) [] := World.ownsRow_lit (size := 2) (e := 34) _ #[] 0 B4.size (by decide) rfl
  have hr := h.next B5
  rw [World.size_alloc] at E4'
  rw [World.size_alloc, World.size_alloc] at O5
  subst hW
  rw [hW2] at E3' E4' O5
  have HP3 := Lib.hid E3'
  have HP4 := Lib.hid E4'
  have HO := Lib.hid O5
  have HB5 := Lib.hid B5
  clear h hp E1 E1' E2 B1 B2 B3 B4 B5 E3 E3' E4 E4' O5 hW2
  go_enter Tryz.func86, Tryz.ntmps86
  rcases hr with ⟨rfl, rfl, rfl, hr0⟩ | ⟨x, rfl, h1, h2, h3, h4⟩
  case' inl =>
    have OZ : Hid (∃ q, upM r (wordsT (p1, p2, p3)) (wordsT (t1, t2, t3)) 0 = some q ∧ OwnP w.heap.size _ _ q ∧ q.length = 0) := Lib.hid ⟨[], by rw [hr0]; rfl, HO.out, rfl⟩
    have HN0 : (0 : Nat) ≤ 1000 + 0 := by omega
    clear hr0 HO hn
    go_wp2_with fail
    generalize w.heap.size + 1 + 1 + 1 + 1 = ob at OZ ⊢
    generalize w.heap.size + 1 + 1 + 1 = tb at HP4 ⊢
    generalize w.heap.size + 1 + 1 = pb at HP3 ⊢
    generalize ((((w.alloc (.cells #[.string p1, .string p2, .string p3] 79)).alloc (.cells #[.string t1, .string t2, .string t3] 79)).alloc (.cells #[.string p1, .string p2, .string p3] 9)).alloc (.cells #[.string t1, .string t2, .string t3] 9)).alloc (.cells #[] 34) = wz at OZ HP3 HP4 HB5 ⊢
  case' inr =>
    have A := Lib.hid (fun j u hj => pres_news h4 j u hj)
    have H3 := Lib.hid h3
    have HF2 := Lib.hid (flatP_one r)
    clear h4 h3
    go_wp2_with (at_builtin; refine wpList_append_own_at _ rfl _ _ 31 rfl w.heap.size 34 i0 (.agg #[.string ⟨#[]⟩, .string ⟨#[]⟩]) 2 32 Tryz.underlying31 hi hz0 hz1 hz2 rfl (by decide) _ _ _ rfl HO.out x n c (flatP r) rfl (by rw [flatP_len, H3.out]) A.out HF2.out ?qc4 ?qc5 ?qc6 ?_)
    case qc4 => (try rw [List.length_nil]); unfold maxLen; omega
    case qc5 => (try rw [List.length_nil]); omega
    case qc6 => omega
    intro uz wz hown hgrow hnn _
    have HU5 : OwnP w.heap.size wz uz r := by unfold OwnP; rw [H3.out]; simpa [flatP] using hown
    obtain ⟨ob, cq, rfl⟩ : ∃ g c, uz = .slice (some ⟨g, 0, none⟩) n c := by
      rcases hown.2 with ⟨e, _⟩ | ⟨g, c, cur, e, _⟩
      · exact absurd e (by simpa using hnn)
      · refine ⟨g, c, ?_⟩; simpa using e
    have OZ : Hid (∃ q, upM r (wordsT (p1, p2, p3)) (wordsT (t1, t2, t3)) 0 = some q ∧ OwnP w.heap.size wz (.slice (some ⟨ob, 0, none⟩) n cq) q ∧ q.length = n) := Lib.hid ⟨r, rfl, HU5, H3.out⟩
    have HN0 : n ≤ 1000 + 0 := by omega
    have HB5 := Lib.hid (HB5.out.grown hgrow HB5.out.size (fun j hj => by simp [Value.ownBlock] at hj; omega))
    have HP3 := Lib.hid (HP3.out.grown hgrow (by simp [Value.ownBlock]))
    have HP4 := Lib.hid (HP4.out.grown hgrow (by simp [Value.ownBlock]))
    clear hown hgrow hnn HU5 HO A H3 HF2 hn h1 h2
    go_wp2_with fail
    generalize w.heap.size + 1 + 1 + 1 = tb at HP4 ⊢
    generalize w.heap.size + 1 + 1 = pb at HP3 ⊢
  all_goals
    have HBW := Lib.hid (fun (W : World) (hb : Box W pb (.string p1) (.string p2) (.string p3) 9) => box_word hb)
    have HTW := Lib.hid (fun (W : World) (hb : Box W tb (.string t1) (.string t2) (.string t3) 9) => box_word hb)
    obtain ⟨ps, hps⟩ : ∃ l, wordsT (p1, p2, p3) = l := ⟨_, rfl⟩
    obtain ⟨ts, hts⟩ : ∃ l, wordsT (t1, t2, t3) = l := ⟨_, rfl⟩
    have hpl : ps.length = 3 := by rw [← hps]; rfl
    have htl : ts.length = 3 := by rw [← hts]; rfl
    rw [hps] at HX OZ HQ
    rw [hts] at OZ HQ
    have HPS := Lib.hid hps
    have HTS := Lib.hid hts
    clear hps hts
    unfold MatchPost
    rw [HQ.out]
    go_loopw [10, 11] (fun o i wr => ∃ k : Nat, k ≤ 3 ∧ i = .int .i64 k ∧ (∃ g n c, o = .slice (some ⟨g, 0, none⟩) n c ∧ n ≤ 1000 + k ∧ Hid (∃ q, upM r ps ts k = some q ∧ OwnP w.heap.size wr o q ∧ q.length = n)) ∧ Hid (Box wr pb (.string p1) (.string p2) (.string p3) 9) ∧ Hid (Box wr tb (.string t1) (.string t2) (.string t3) 9) ∧ Below w.heap.size w wr) (fun _ i _ => 3 - (intOf i).toNat)
    case atStart => exact ⟨0, Nat.zero_le _, rfl, ⟨_, _, _, rfl, HN0, OZ⟩, HP3, HP4, HB5.out⟩
    case round =>
      obtain ⟨k, hk, rfl, ⟨g', n', c', rfl, hn', HQQ⟩, HP, HT, hnx⟩ := hrel
      clear OZ HP3 HP4 HB5 HN0
      obtain ⟨q, hq1, hq2, hq3⟩ := HQQ.out
      have hq1' := Lib.hid hq1
      have hq2' := Lib.hid hq2
      have hq3' := Lib.hid hq3
      have hk6 : (0 : Int) ≤ (k : Int) := by omega
      by_cases hlt : k < 3
      · have hxx : ps[k]? = some (ps[k]'(by omega)) := List.getElem?_eq_getElem (by omega)
        have hyy : ts[k]? = some (ts[k]'(by omega)) := List.getElem?_eq_getElem (by omega)
        generalize ps[k]'(by omega) = x at hxx
        generalize ts[k]'(by omega) = y at hyy
        have hx1 := HX.out k x hxx
        have cx := HBW.out _ HP.out k x (by rw [HPS.out]; exact hxx)
        have cy := HTW.out _ HT.out k y (by rw [HTS.out]; exact hyy)
        have HUP := Lib.hid (upM_next hq1 hxx hyy)
        have CV' := specKindOf x hx1
        have hk7 : (k : Int) < 3 := by omega
        have EK : (kindL x.data.toList = 4 ∧ isVarK x.data.toList = true) ∨ (((kindL x.data.toList : Nat) : Int) ≠ 4 ∧ isVarK x.data.toList = false) := by
          unfold isVarK
          by_cases g : kindL x.data.toList = 4
          · exact .inl ⟨g, by simp [g]⟩
          · exact .inr ⟨by omega, by simp [g]⟩
        generalize kindL x.data.toList = kk at CV' EK
        have CV := Lib.hid CV'
        have HXX := Lib.hid hxx
        have HYY := Lib.hid hyy
        clear CV' hxx hyy hq1 hq2 hq3 HQQ
        rcases EK with ⟨rfl, e2⟩ | ⟨e1, e2⟩
        · have HV := Lib.hid e2
          go_wp2_with fail
          refine (CV.out _).mono ?_
          rintro e w4 ⟨rfl, hb4⟩
          have B4 := hnx.trans (hb4.mono hnx.size)
          have HP := Lib.hid (HP.out.next hb4)
          have HT := Lib.hid (HT.out.next hb4)
          have hq4 := ownP_kept hq2'.out hb4
          have c1 := HBW.out _ HP.out k x (by rw [HPS.out]; exact HXX.out)
          have d1 := HTW.out _ HT.out k y (by rw [HTS.out]; exact HYY.out)
          have l1 := HP.out.lt
          have l2 := HT.out.lt
          have CP := Lib.hid (specPutP w.heap.size g' n' c' q x y w4.drew (World.ownsRow.drew hq4) hq3'.out (by omega) B4.size)
          have BD := Lib.hid B4.drew
          have c1d : w4.drew.cell? ⟨pb, k, none⟩ = some (.string x) := c1
          have d1d : w4.drew.cell? ⟨tb, k, none⟩ = some (.string y) := d1
          have HUP2 : Hid (upM r ps ts (k + 1) = putP q (x, y)) := Lib.hid (by rw [HUP.out]; unfold stepM; rw [if_pos HV.out])
          clear hb4 hnx CV cx cy c1 d1 hq4 B4
          go_wp2_with fail
          go_region_held3 (fun w' => w'.cell? ⟨pb, k, none⟩ = some (.string x) ∧ w'.cell? ⟨tb, k, none⟩ = some (.string y))
            (first | go_keep | (have q0 := (hb5.cell (p := ⟨pb, k, none⟩) l1).trans c1d; have q1 := (hb5.cell (p := ⟨tb, k, none⟩) l2).trans d1d; with_reducible exact ⟨q0, q1⟩))
            (first | (go_at_call 115; refine CP.out.mono ?_; rintro e w5 ⟨g2, n2, c2, f, rfl, hyes, hno, hb5⟩))
          have B5 := BD.out.trans (hb5.mono BD.out.size)
          have HP5 := Lib.hid (HP.out.drew.next hb5)
          have HT5 := Lib.hid (HT.out.drew.next hb5)
          clear hb5 CP c1d d1d
          cases f
          · have HN : Hid (upM r ps ts 3 = none) := Lib.hid (upM_stop (by rw [HUP2.out]; exact hno rfl) 3 (by omega))
            clear hyes hno
            go_wp2_with fail
            go_ret2
            exact ⟨.slice none 0 0, by rw [HN.out]; rfl, by rw [HN.out]; exact World.ownsRow_nil .., B5⟩
          · obtain ⟨h, hh1, hh2, hh3⟩ := hyes rfl
            have HN : Hid (∃ q, upM r ps ts (k + 1) = some q ∧ OwnP w.heap.size w5 (.slice (some ⟨g2, 0, none⟩) n2 c2) q ∧ q.length = n2) := Lib.hid ⟨h, by rw [HUP2.out]; exact hh1, hh2, hh3⟩
            have hnl : n2 ≤ 1000 + (k + 1) := by have := putP_len hh1; have := hq3'.out; omega
            clear hyes hno hh1 hh2 hh3
            go_wp2_with fail
            go_roundw
            case rel => exact ⟨k + 1, by omega, by go_num, ⟨g2, n2, c2, rfl, hnl, HN⟩, HP5, HT5, B5⟩
            case measure => simp [intOf]; omega
        · have e3 : ((kk : Int) != 4) = true := by simpa using e1
          have e4 : ((kk : Int) == 4) = false := by simpa using e1
          have HUP2 : Hid (upM r ps ts (k + 1) = if x = y then some q else none) := Lib.hid (by rw [HUP.out]; unfold stepM; rw [if_neg (by rw [e2]; simp)])
          clear e2
          go_wp2_with fail
          refine (CV.out _).mono ?_
          rintro e w4 ⟨rfl, hb4⟩
          have B4 := hnx.trans (hb4.mono hnx.size)
          have HP := Lib.hid (HP.out.next hb4)
          have HT := Lib.hid (HT.out.next hb4)
          have hq4 := Lib.hid (ownP_kept hq2'.out hb4)
          have c1 := HBW.out _ HP.out k x (by rw [HPS.out]; exact HXX.out)
          have d1 := HTW.out _ HT.out k y (by rw [HTS.out]; exact HYY.out)
          clear hb4 hnx CV cx cy
          by_cases hxy : x = y
          · have heq : (x.toList == y.toList) = true := by rw [hxy]; simp
            have HN : Hid (upM r ps ts (k + 1) = some q) := Lib.hid (by rw [HUP2.out, if_pos hxy])
            clear hxy
            go_wp2_with fail
            go_quiet (fail)
            have BD := drewN_below nq B4
            have HP := Lib.hid (HP.out.next (drewN_below nq (Below.refl w4.heap.size w4)))
            have HT := Lib.hid (HT.out.next (drewN_below nq (Below.refl w4.heap.size w4)))
            have HN2 : Hid (∃ q, upM r ps ts (k + 1) = some q ∧ OwnP w.heap.size (w4.drewN nq) (.slice (some ⟨g', 0, none⟩) n' c') q ∧ q.length = n') := Lib.hid ⟨q, HN.out, ownP_kept hq4.out (drewN_below nq (Below.refl w4.heap.size w4)), hq3'.out⟩
            clear B4 c1 d1 hq4 HN
            generalize w4.drewN nq = wd at BD HP HT HN2 ⊢
            go_wp2_with fail
            go_roundw
            case rel => exact ⟨k + 1, by omega, by go_num, ⟨g', n', c', rfl, by omega, HN2⟩, HP, HT, BD⟩
            case measure => simp [intOf]; omega
          · have heq : (x.toList == y.toList) = false := bl_eqn hxy
            have HN : Hid (upM r ps ts 3 = none) := Lib.hid (upM_stop (k := k + 1) (by rw [HUP2.out, if_neg hxy]) 3 (by omega))
            clear hxy
            go_wp2_with fail
            go_quiet (fail)
            have BD := drewN_below nq B4
            clear B4 c1 d1 hq4
            generalize w4.drewN nq = wd at BD ⊢
            go_wp2_with fail
            go_ret2
            exact ⟨.slice none 0 0, by rw [HN.out]; rfl, by rw [HN.out]; exact World.ownsRow_nil .., BD⟩
      · have hk3 : k = 3 := by omega
        have HF : Hid (upM r ps ts 3 = some q) := Lib.hid (by rw [← hk3]; exact hq1'.out)
        clear hq1 hq2 hq3 HQQ hk3
        go_wp2_with fail
        go_ret2
        exact ⟨.slice (some ⟨g', 0, none⟩) n' c', by first | (rw [HF.out]; rfl) | (rw [HQ.out, HF.out]; rfl), by first | (rw [HF.out]; exact hq2'.out) | (rw [HQ.out, HF.out]; exact hq2'.out), hnx⟩
end Go.Proofs.YtbhlenjcahonnaaGreat
