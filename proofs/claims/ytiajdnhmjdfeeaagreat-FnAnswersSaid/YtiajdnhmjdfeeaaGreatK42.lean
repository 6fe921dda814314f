/- What an answer's rows are: plain facts.; When a query is right: the program.; A query's answer: the program. -/
import Derived.Test.YtiajdnhmjdfeeaaGreatK40
import Derived.Test.YtiajdnhmjdfeeaaGreatK41
import Derived.Test.YtiajdnhmjdfeeaaGreatK38
import Derived.Test.YtiajdnhmjdfeeaaGreatK14
import Derived.Test.YtiajdnhmjdfeeaaGreatK19
import Derived.Test.YtiajdnhmjdfeeaaGreatK12
import Derived.Test.YtiajdnhmjdfeeaaGreatK39
import Derived.Test.YtiajdnhmjdfeeaaGreatK36
namespace Go.Proofs.YtiajdnhmjdfeeaaGreat
open Go.RowKit Go.WideShapes Go.Maps Go.Sort Go.Shelf
theorem solveM_within {g : List Tri3} : ∀ (l : List Tri3) (rows R : List RowV), solveM g l rows = some R → ∀ m ∈ R, ∃ r ∈ rows, ∀ u ∈ r, u ∈ m
  | [], rows, R, e, m, hm => by
    unfold solveM at e
    cases e
    exact ⟨m, hm, fun u hu => hu⟩
  | p :: l, rows, R, e, m, hm => by
    unfold solveM at e
    by_cases hc : (addAllR [] (joinM g p rows)).length ≤ 300
    · rw [if_pos hc] at e
      obtain ⟨q, hq, hs⟩ := solveM_within l _ R e m hm
      have hq' : q ∈ joinM g p rows := by
        rcases addAllR_mem hq with h | h
        · simp at h
        · exact h
      obtain ⟨r, hr, t, _, ht⟩ := joinM_mem.1 hq'
      exact ⟨r, hr, fun u hu => hs u (matchM_sub ht u hu)⟩
    · rw [if_neg hc] at e
      cases e
theorem ext_known {gs ls : List Tri3} {rs : List RowV} (h : extOk gs rs ls = true) : ∃ A, allX (moreS gs ls) rs = some A ∧ (∀ m ∈ A, rowOk m = true) ∧ extR gs rs ls = addAllR [] A := by
  have h0 := h
  unfold extOk at h
  simp only [Bool.and_eq_true] at h
  obtain ⟨hg, hq, hl, hf⟩ := h
  cases hA : extA gs rs ls with
  | none => rw [hA] at hf; cases hf
  | some A =>
    rw [hA] at hf
    unfold finX at hf
    simp only [Bool.and_eq_true, List.all_eq_true, decide_eq_true_eq] at hf
    refine ⟨A, hA, hf.1, ?_⟩
    unfold extR
    rw [if_pos h0, hA]
    rfl
theorem more_within {gs ls : List Tri3} {r : RowV} {M : List RowV} (h : moreS gs ls r = some M) : (∀ m ∈ M, ∀ u ∈ r, u ∈ m) ∧ ∃ m, m ∈ M := by
  unfold moreS at h
  cases hc : solveM gs ls [r] with
  | none => rw [hc] at h; cases h
  | some R =>
    rw [hc] at h
    obtain rfl : M = orOne r R := (Option.some.inj h).symm
    have hp := solveM_within ls _ R hc
    unfold orOne
    by_cases h0 : R.length = 0
    · rw [if_pos h0]
      exact ⟨fun m hm u hu => by rw [List.mem_singleton.1 hm]; exact hu, r, List.mem_singleton.2 rfl⟩
    · rw [if_neg h0]
      refine ⟨fun m hm u hu => ?_, R[0]'(by omega), List.getElem_mem _⟩
      obtain ⟨q, hq, hs⟩ := hp m hm
      obtain rfl := List.mem_singleton.1 hq
      exact hs u hu
/-- The rows that are projected, and the solutions of what must fit. -/
structure Mid (gs t1 : List Tri3) (rs : List RowV) : Prop where
  sol : solOk gs t1 = true
  ok : ∀ m ∈ rs, rowOk m = true
  of : ∀ m ∈ rs, ∃ s ∈ solR gs t1, ∀ u ∈ s, u ∈ m
  all : ∀ s ∈ solR gs t1, ∃ m ∈ rs, ∀ u ∈ s, u ∈ m
theorem solR_rowOk {gs ls : List Tri3} (h : solOk gs ls = true) : ∀ r ∈ solR gs ls, rowOk r = true := fun r hr =>
  (solR_row h r hr).ok (bgpOk_iff.1 (solR_cases h).2.1).1
theorem mid_of {gs : List Tri3} {vs : List ByteArray} {t1 t2 : List Tri3} {rs : List RowV} (h : ansRows gs vs t1 t2 = some rs) : Mid gs t1 rs := by
  unfold ansRows at h
  split at h
  · rename_i hc
    have hs := hc.2.2
    have hok := solR_rowOk hs
    split at h
    · obtain rfl := Option.some.inj h
      exact ⟨hs, hok, fun m hm => ⟨m, hm, fun u hu => hu⟩, fun m hm => ⟨m, hm, fun u hu => hu⟩⟩
    · split at h
      · rename_i hx
        obtain rfl := Option.some.inj h
        obtain ⟨A, hA, hAok, hE⟩ := ext_known hx
        have hz : NoZs A := fun s hs => rowOk_noZ (hAok s hs)
        rw [hE]
        refine ⟨hs, fun m hm => hAok m ((addAllR_both hz m).1 hm), fun m hm => ?_, fun s hs' => ?_⟩
        · obtain ⟨r, hr, M, hM, hmM⟩ := (allX_mem hA m).1 ((addAllR_both hz m).1 hm)
          exact ⟨r, hr, (more_within hM).1 m hmM⟩
        · obtain ⟨M, hM⟩ : ∃ M, moreS gs t2 s = some M := by
            cases hc : moreS gs t2 s with
            | none => rw [allX_none hc hs'] at hA; cases hA
            | some M => exact ⟨M, rfl⟩
          obtain ⟨h1, m, hm⟩ := more_within hM
          exact ⟨m, (addAllR_both hz m).2 ((allX_mem hA m).2 ⟨s, hs', M, hM, hm⟩), h1 m hm⟩
      · simp at h
  · simp at h
theorem projL_back {rs : List RowV} {vs : List ByteArray} (hok : ∀ m ∈ rs, rowOk m = true) : ∀ r, r ∈ projL rs vs ↔ ∃ m ∈ rs, keepL (txts vs) m = r := by
  intro r
  unfold projL
  have hz : NoZs (rs.map (keepL (txts vs))) := fun s hs => by
    obtain ⟨m, hm, rfl⟩ := List.mem_map.1 hs
    exact rowOk_noZ (rowOk_keep (hok m hm))
  rw [addAllR_both hz, List.mem_map]
theorem keepL_sub {names : List Txt} {r : RowV} : ∀ u ∈ keepL names r, u ∈ r := fun _ hu => (List.mem_filter.1 hu).1
/-- What a solution has of some of its names is what each row that it is a part of has of them. -/
theorem keep_part {s m : RowV} {names : List Txt} (hs : rowOk s = true) (hm : rowOk m = true) (hsm : ∀ u ∈ s, u ∈ m) (hn : ∀ x ∈ names, ∃ u ∈ s, u.1.data.toList = x) : keepL names m = keepL names s := by
  have am := asc_iff.1 (asc_ok hm)
  refine asc_ext (asc_ok (rowOk_keep hm)) (asc_ok (rowOk_keep hs)) fun u => ?_
  unfold keepL
  rw [List.mem_filter, List.mem_filter]
  refine ⟨fun ⟨h1, h2⟩ => ⟨?_, h2⟩, fun ⟨h1, h2⟩ => ⟨hsm u h1, h2⟩⟩
  obtain ⟨v, hv, e⟩ := hn _ (of_decide_eq_true h2)
  by_cases hvu : v = u
  · subst hvu; exact hv
  · have hvm := hsm v hv
    exfalso
    obtain ⟨i, hi⟩ := List.mem_iff_getElem?.1 hvm
    obtain ⟨j, hj⟩ := List.mem_iff_getElem?.1 h1
    have hij : i ≠ j := fun e' => by subst e'; rw [hi] at hj; exact hvu (Option.some.inj hj)
    obtain ⟨li, ei⟩ := List.getElem?_eq_some_iff.1 hi
    obtain ⟨lj, ej⟩ := List.getElem?_eq_some_iff.1 hj
    rcases Nat.lt_or_gt_of_ne hij with g | g
    · have := (List.pairwise_iff_getElem.1 am) i j li lj g
      rw [ei, ej] at this
      unfold LtP at this
      rw [e] at this
      exact absurd this (by rw [ltb_irrefl]; simp)
    · have := (List.pairwise_iff_getElem.1 am) j i lj li g
      rw [ei, ej] at this
      unfold LtP at this
      rw [e] at this
      exact absurd this (by rw [ltb_irrefl]; simp)
/-- What must fit stays when something more may. -/
theorem ans_few {gs t1 : List Tri3} {rs : List RowV} {vs asked : List ByteArray} (h : Mid gs t1 rs) (h1 : ∀ x ∈ txts asked, x ∈ varWords t1) (h2 : ∀ x ∈ txts asked, x ∈ txts vs) : projL (projL rs vs) asked = projL (solR gs t1) asked := by
  have hp : ∀ r ∈ projL rs vs, rowOk r = true := fun r hr => by
    obtain ⟨m, hm, rfl⟩ := (projL_back h.ok r).1 hr
    exact rowOk_keep (h.ok m hm)
  have hso := solR_rowOk h.sol
  have kk : ∀ m, keepL (txts asked) (keepL (txts vs) m) = keepL (txts asked) m := fun m => by
    unfold keepL
    rw [List.filter_filter]
    refine List.filter_congr fun u _ => ?_
    by_cases hu : u.1.data.toList ∈ txts asked
    · simp [hu, h2 _ hu]
    · simp [hu]
  have nm : ∀ s ∈ solR gs t1, ∀ x ∈ txts asked, ∃ u ∈ s, u.1.data.toList = x := fun s hs x hx => mem_names.1 (((solR_row h.sol s hs).1 x).2 (h1 x hx))
  show addAllR [] ((projL rs vs).map (keepL (txts asked))) = addAllR [] ((solR gs t1).map (keepL (txts asked)))
  refine addAllR_same (fun s hs => ?_) (fun s hs => ?_) fun r => ?_
  · obtain ⟨m, hm, rfl⟩ := List.mem_map.1 hs
    exact rowOk_noZ (rowOk_keep (hp m hm))
  · obtain ⟨m, hm, rfl⟩ := List.mem_map.1 hs
    exact rowOk_noZ (rowOk_keep (hso m hm))
  · rw [List.mem_map, List.mem_map]
    constructor
    · rintro ⟨q, hq, rfl⟩
      obtain ⟨m, hm, rfl⟩ := (projL_back h.ok q).1 hq
      obtain ⟨s, hs, hsm⟩ := h.of m hm
      exact ⟨s, hs, by rw [kk, keep_part (hso s hs) (h.ok m hm) hsm (nm s hs)]⟩
    · rintro ⟨s, hs, rfl⟩
      obtain ⟨m, hm, hsm⟩ := h.all s hs
      exact ⟨_, (projL_back h.ok _).2 ⟨m, hm, rfl⟩, by rw [kk, keep_part (hso s hs) (h.ok m hm) hsm (nm s hs)]⟩
theorem few_ok {gs t1 : List Tri3} {rs : List RowV} {vs asked : List ByteArray} (h : Mid gs t1 rs) (hl : (projL rs vs).length ≤ 300) (h1 : ∀ x ∈ txts asked, isVarK x = true) : projOk (projL rs vs) asked = true ∧ projOk (solR gs t1) asked = true := by
  have hv : varsOkL asked = true := by unfold varsOkL; exact List.all_eq_true.2 h1
  have hp : ∀ r ∈ projL rs vs, rowOk r = true := fun r hr => by
    obtain ⟨m, hm, rfl⟩ := (projL_back h.ok r).1 hr
    exact rowOk_keep (h.ok m hm)
  have hs : (solR gs t1).length ≤ 300 := solR_len
  unfold projOk rowsOkL
  simp only [hv, Bool.and_true, Bool.and_eq_true, decide_eq_true_eq, List.all_eq_true]
  exact ⟨⟨hl, hp⟩, hs, solR_rowOk h.sol⟩
end Go.Proofs.YtiajdnhmjdfeeaaGreat
namespace Go.Proofs.YtiajdnhmjdfeeaaGreat
open Go.RowKit Go.WideShapes Go.Maps
theorem upon_countQ {o : Oper} {a : Act} {w : World} {Q : Exit → Act → World → Prop} {K : Act → World → Prop} (m : Operand) (hop : o.op = Op.call { callee := Callee.builtin Builtin.len, args := #[m], argTypes := #[133] }) (b n : Nat) (ts : List Txt) (hm : a.eval m = .map (some b)) (h : OwnSetS w b n ts)
    (hK : K (a.put o.dst (.int .i64 ts.length)) w) : Oper.wp Tryz.prog o a w K Q := by
  obtain ⟨D, hown, hD⟩ := h
  unfold Oper.wp
  simp [execOp, hop, resolve, invoke, builtin, hm, hown.len Tryz.underlying133 o.type, Result.andThen]
  rw [hD.size]; exact hK
theorem varsT_small {ts : List Tri3} (hs : Sm ts) : ∀ x ∈ (varsT ts).map bs, x.size ≤ maxLen := by
  intro x hx
  obtain ⟨u, hu, rfl⟩ := List.mem_map.1 hx
  unfold varsT at hu
  split at hu
  · rcases putAllS_mem.1 hu with h | h
    · simp at h
    · unfold varWords at h
      obtain ⟨t, ht, h⟩ := List.mem_flatMap.1 h
      unfold varsIn at h
      obtain ⟨h, _⟩ := List.mem_filter.1 h
      obtain ⟨s, hs', rfl⟩ := List.mem_map.1 h
      obtain ⟨h1, h2, h3⟩ := hs t ht
      rw [bs_size]
      have e : s.data.toList.length = s.size := rfl
      rw [e]
      unfold wordsT at hs'
      simp only [List.mem_cons, List.not_mem_nil, or_false] at hs'
      unfold maxLen
      rcases hs' with rfl | rfl | rfl <;> omega
  · simp at hu
theorem varsT_most (ts : List Tri3) : (varsT ts).length ≤ 12 := by
  unfold varsT
  split
  · rename_i h
    have h1 := putAllS_len (varWords ts) []
    have h2 := varWords_len ts
    have h3 : ts.length ≤ 4 := by unfold bgpOk at h; simp only [Bool.and_eq_true, decide_eq_true_eq] at h; exact h.1
    simp only [List.length_nil] at h1
    omega
  · simp
set_option maxRecDepth 100000 in
set_option maxHeartbeats 6400000 in
theorem implQueryOk (a0 a1 a2 : Option Addr) (n0 n1 n2 c0 c1 c2 : Nat) (vs : List ByteArray) (t1 t2 : List Tri3) (w : World) (h : IsQry w a0 a1 a2 n0 n1 n2 c0 c1 c2 vs t1 t2) (h1 : Sm t1) (h2 : Sm t2) (l0 : n0 ≤ 1048576) :
    Calls Tryz.prog 53 #[.agg #[.slice a0 n0 c0, .slice a1 n1 c1, .slice a2 n2 c2]] w fun e w' => e = .returned (.bool (queryOk vs t1 t2)) ∧ Below w.heap.size w w' := by
  have B0 := Lib.hid ((Below.refl w.heap.size w).alloc (Nat.le_refl _) (.cells #[.slice a0 n0 c0, .slice a1 n1 c1, .slice a2 n2 c2] 34))
  have X0 := Lib.hid (cells_new w #[.slice a0 n0 c0, .slice a1 n1 c1, .slice a2 n2 c2] 34)
  have I0 := Lib.hid (h.next ((Below.refl w.heap.size w).alloc (Nat.le_refl _) (.cells #[.slice a0 n0 c0, .slice a1 n1 c1, .slice a2 n2 c2] 34)))
  have HV := Lib.hid h.1.1.len
  have HT1 := Lib.hid h.2.1.len
  have HS1 := Lib.hid h1
  have HS2 := Lib.hid h2
  obtain ⟨q, hq⟩ : ∃ q, queryOk vs t1 t2 = q := ⟨_, rfl⟩
  have HQ := Lib.hid hq
  rw [hq]
  clear h h1 h2 hq
  by_cases hn1 : n1 = 0
  · have HF : Hid (q = false) := Lib.hid (by rw [← HQ.out]; unfold queryOk; rw [HT1.out, decide_eq_false (by omega)]; rfl)
    rw [HF.out]
    go_enter Tryz.func53, Tryz.ntmps53
    obtain ⟨v, u, z⟩ := X0.out.now.tre
    have hz : ((n1 : Int) == 0) = true := by rw [beq_iff_eq]; omega
    clear hn1
    go_wp2_with fail
    go_ret
    exact ⟨rfl, B0.out⟩
  have hz1 : ((n1 : Int) == 0) = false := by rw [beq_eq_false_iff_ne]; omega
  have C1 := fun (W : World) (hb : IsTris W a1 n1 c1 t1) => implBgpOk a1 n1 c1 t1 W hb HS1.out
  have C2 := fun (W : World) (hb : IsTris W a2 n2 c2 t2) => implBgpOk a2 n2 c2 t2 W hb HS2.out
  cases hb1 : bgpOk t1
  · rw [hb1] at C1
    have D1 := Lib.hid C1
    clear C1 C2
    have HF : Hid (q = false) := Lib.hid (by rw [← HQ.out]; unfold queryOk; rw [hb1, Bool.false_and, Bool.and_false])
    rw [HF.out]
    go_enter Tryz.func53, Tryz.ntmps53
    obtain ⟨v, u, z⟩ := X0.out.now.tre
    go_wp2_with fail
    refine (D1.out _ I0.out.2.1).mono ?_
    rintro e w1 ⟨rfl, hb⟩
    have B1 := Lib.hid (B0.out.trans (hb.mono B0.out.size))
    have X1 := Lib.hid (X0.out.next hb)
    have I1 := Lib.hid (I0.out.next hb)
    clear hb B0 X0 I0
    clear v u z
    go_wp2_with fail
    go_ret
    exact ⟨rfl, B1.out⟩
  rw [hb1] at C1
  cases hb2 : bgpOk t2
  · rw [hb2] at C2
    have D1 := Lib.hid C1
    have D2 := Lib.hid C2
    clear C1 C2
    have HF : Hid (q = false) := Lib.hid (by rw [← HQ.out]; unfold queryOk; rw [hb2, Bool.false_and, Bool.and_false, Bool.and_false])
    rw [HF.out]
    go_enter Tryz.func53, Tryz.ntmps53
    obtain ⟨v, u, z⟩ := X0.out.now.tre
    go_wp2_with fail
    refine (D1.out _ I0.out.2.1).mono ?_
    rintro e w1 ⟨rfl, hb⟩
    have B1 := Lib.hid (B0.out.trans (hb.mono B0.out.size))
    have X1 := Lib.hid (X0.out.next hb)
    have I1 := Lib.hid (I0.out.next hb)
    clear hb B0 X0 I0
    clear v u z
    obtain ⟨v, u, z⟩ := X1.out.now.tre
    go_wp2_with fail
    refine (D2.out _ I1.out.2.2).mono ?_
    rintro e w2 ⟨rfl, hb⟩
    have B2 := Lib.hid (B1.out.trans (hb.mono B1.out.size))
    have X2 := Lib.hid (X1.out.next hb)
    have I2 := Lib.hid (I1.out.next hb)
    clear hb B1 X1 I1
    clear v u z
    go_wp2_with fail
    go_ret
    exact ⟨rfl, B2.out⟩
  rw [hb2] at C2
  have D1 := Lib.hid C1
  have D2 := Lib.hid C2
  clear C1 C2
  by_cases hn0 : n0 < 1
  · have HF : Hid (q = false) := Lib.hid (by rw [← HQ.out]; unfold queryOk; rw [HV.out, decide_eq_false (show ¬ 1 ≤ n0 by omega)]; simp)
    rw [HF.out]
    have hl : (n0 : Int) < 1 := by omega
    go_enter Tryz.func53, Tryz.ntmps53
    obtain ⟨v, u, z⟩ := X0.out.now.tre
    go_wp2_with fail
    refine (D1.out _ I0.out.2.1).mono ?_
    rintro e w1 ⟨rfl, hb⟩
    have B1 := Lib.hid (B0.out.trans (hb.mono B0.out.size))
    have X1 := Lib.hid (X0.out.next hb)
    have I1 := Lib.hid (I0.out.next hb)
    clear hb B0 X0 I0
    clear v u z
    obtain ⟨v, u, z⟩ := X1.out.now.tre
    go_wp2_with fail
    refine (D2.out _ I1.out.2.2).mono ?_
    rintro e w2 ⟨rfl, hb⟩
    have B2 := Lib.hid (B1.out.trans (hb.mono B1.out.size))
    have X2 := Lib.hid (X1.out.next hb)
    have I2 := Lib.hid (I1.out.next hb)
    clear hb B1 X1 I1
    clear v u z
    obtain ⟨v, u, z⟩ := X2.out.now.tre
    go_wp2_with fail
    go_ret
    exact ⟨rfl, B2.out⟩
  have hl1 : ¬ (n0 : Int) < 1 := by omega
  by_cases hn4 : 4 < n0
  · have HF : Hid (q = false) := Lib.hid (by rw [← HQ.out]; unfold queryOk; rw [HV.out, decide_eq_false (show ¬ n0 ≤ 4 by omega)]; simp)
    rw [HF.out]
    have hl : (4 : Int) < n0 := by omega
    go_enter Tryz.func53, Tryz.ntmps53
    obtain ⟨v, u, z⟩ := X0.out.now.tre
    go_wp2_with fail
    refine (D1.out _ I0.out.2.1).mono ?_
    rintro e w1 ⟨rfl, hb⟩
    have B1 := Lib.hid (B0.out.trans (hb.mono B0.out.size))
    have X1 := Lib.hid (X0.out.next hb)
    have I1 := Lib.hid (I0.out.next hb)
    clear hb B0 X0 I0
    clear v u z
    obtain ⟨v, u, z⟩ := X1.out.now.tre
    go_wp2_with fail
    refine (D2.out _ I1.out.2.2).mono ?_
    rintro e w2 ⟨rfl, hb⟩
    have B2 := Lib.hid (B1.out.trans (hb.mono B1.out.size))
    have X2 := Lib.hid (X1.out.next hb)
    have I2 := Lib.hid (I1.out.next hb)
    clear hb B1 X1 I1
    clear v u z
    obtain ⟨v, u, z⟩ := X2.out.now.tre
    go_wp2_with fail
    go_ret
    exact ⟨rfl, B2.out⟩
  have hl4 : ¬ (4 : Int) < n0 := by omega
  have HE : Hid (q = (distS (txts vs) && subS (addAllS [] (allVars t1 ++ allVars t2)) (txts vs))) := Lib.hid (by rw [← HQ.out]; unfold queryOk; rw [HT1.out, HV.out, hb1, hb2, decide_eq_true (show 0 < n1 by omega), decide_eq_true (show 1 ≤ n0 by omega), decide_eq_true (show n0 ≤ 4 by omega)]; rfl)
  have HV1 := Lib.hid (varsT_is hb1)
  have HV2 := Lib.hid (varsT_is hb2)
  clear hb1 hb2
  have HTL : Hid ((txts vs).length = n0) := Lib.hid (by rw [txts_len, HV.out])
  go_enter Tryz.func53, Tryz.ntmps53
  obtain ⟨v, u, z⟩ := X0.out.now.tre
  go_wp2_with fail
  refine (D1.out _ I0.out.2.1).mono ?_
  rintro e w1 ⟨rfl, hb⟩
  have B1 := Lib.hid (B0.out.trans (hb.mono B0.out.size))
  have X1 := Lib.hid (X0.out.next hb)
  have I1 := Lib.hid (I0.out.next hb)
  clear hb B0 X0 I0
  clear v u z
  obtain ⟨v, u, z⟩ := X1.out.now.tre
  go_wp2_with fail
  refine (D2.out _ I1.out.2.2).mono ?_
  rintro e w2 ⟨rfl, hb⟩
  have B2 := Lib.hid (B1.out.trans (hb.mono B1.out.size))
  have X2 := Lib.hid (X1.out.next hb)
  have I2 := Lib.hid (I1.out.next hb)
  clear hb B1 X1 I1
  clear v u z
  obtain ⟨v, u, z⟩ := X2.out.now.tre
  cases hd : distS (txts vs)
  · have hc : (((addAllS [] (txts vs)).length : Int) == (n0 : Int)) = false := by unfold distS at hd; rw [HTL.out, decide_eq_false_iff_not] at hd; rw [beq_eq_false_iff_ne]; omega
    have HF : Hid (q = false) := Lib.hid (by rw [HE.out, hd, Bool.false_and])
    clear hd
    go_wp2_with fail
    clear v u z
    have hb : Below w2.heap.size w2 w2.drew := (Below.refl _ _).drew
    have B3 := Lib.hid B2.out.drew
    have X3 := Lib.hid (X2.out.next hb)
    have I3 := Lib.hid (I2.out.next hb)
    clear hb B2 X2 I2
    refine wp_region_held_drew (S := (fun w' => w'.cell? ⟨w.heap.size, 0, none⟩ = some (.slice a0 n0 c0) ∧ w'.cell? ⟨w.heap.size, 1, none⟩ = some (.slice a1 n1 c1) ∧ w'.cell? ⟨w.heap.size, 2, none⟩ = some (.slice a2 n2 c2))) (by kernel_rfl) ?_ (fun hHeld => ?_)
    · exact X3.out.now.tre
    refine wpAnyH_take (i := 0) (v := ?_) rfl (by kernel_rfl) (by kernel_rfl) (by kernel_rfl) (fun _ _ _ h => h) (Or.inl ⟨by kernel_rfl, ?_⟩) (by assumption) ?_
    rotate_left
    · intro w hSw; (try dsimp only at hSw); go_simp; try with_reducible rfl
    refine wpAnyH_take (i := 1) (v := ?_) rfl (by kernel_rfl) (by kernel_rfl) (by kernel_rfl) (fun _ _ _ h => h) (Or.inl ⟨by kernel_rfl, ?_⟩) (by assumption) ?_
    rotate_left
    · intro w hSw; (try dsimp only at hSw); go_simp; try with_reducible rfl
    refine wpAnyH_take (i := 5) (v := ?_) rfl (by kernel_rfl) (by kernel_rfl) (by kernel_rfl) (fun _ _ _ h => h) (Or.inl ⟨by kernel_rfl, ?_⟩) (by assumption) ?_
    rotate_left
    · intro w hSw; (try dsimp only at hSw); go_simp; try with_reducible rfl
    refine wpAnyH_take (i := 6) (v := ?_) rfl (by kernel_rfl) (by kernel_rfl) (by kernel_rfl) (fun _ _ _ h => h) (Or.inl ⟨by kernel_rfl, ?_⟩) (by assumption) ?_
    rotate_left
    · intro w hSw; (try dsimp only at hSw); go_simp; try with_reducible rfl
    refine wpAnyH_take (i := 7) (v := ?_) rfl (by kernel_rfl) (by kernel_rfl) (by kernel_rfl) (fun _ _ _ h => h) (Or.inl ⟨by kernel_rfl, ?_⟩) (by assumption) ?_
    rotate_left
    · intro w hSw; (try dsimp only at hSw); go_simp; try with_reducible rfl
    refine wpAnyH_ready (rs := [2]) (by kernel_rfl) (by simp) ?_
    refine AllReadyH.cons rfl (fun K hK => ?_) AllReadyH.nil
    go_simp
    clear hHeld
    refine hK.out _ _ ?_ (fun hHeld => ?_)
    · exact (X3.out.alloc _).now.tre
    clear hK K
    have hb := (Below.refl (w2.drew).heap.size (w2.drew)).alloc (Nat.le_refl _) (.cells #[.slice a0 n0 c0] 23)
    have B4 := Lib.hid (B3.out.alloc B3.out.size (.cells #[.slice a0 n0 c0] 23))
    have X4 := Lib.hid (X3.out.next hb)
    have I4 := Lib.hid (I3.out.next hb)
    clear hb B3 X3 I3
    have L4 := Lib.hid (cells_new w2.drew #[.slice a0 n0 c0] 23)
    refine wpAnyH_ready (rs := [3]) (by kernel_rfl) (by simp) ?_
    refine AllReadyH.cons rfl (fun K hK => ?_) AllReadyH.nil
    go_simp
    refine (implSetOfQ _ 1 [(a0, n0, c0, vs)] _ rfl (Nat.lt_of_lt_of_le (Nat.lt_succ_self _) L4.out.le) (by omega) (by rw [show allS [(a0, n0, c0, vs)] = txts vs from by simp [allS], HTL.out]; omega) (fun i x hx => by
      have hi := (List.getElem?_eq_some_iff.1 hx).1
      simp only [List.length_singleton] at hi
      obtain rfl : i = 0 := by omega
      simp at hx; subst hx
      exact ⟨L4.out.now.at 0, I4.out.1.1, I4.out.1.2⟩)).mono ?_
    rintro e w5 ⟨sb, sm, rfl, _, hsm, hset, hb⟩
    have B5 := Lib.hid (B4.out.trans (hb.mono B4.out.size))
    have X5 := Lib.hid (X4.out.next hb)
    have I5 := Lib.hid (I4.out.next hb)
    have L5 := Lib.hid (L4.out.next hb)
    clear hb B4 X4 I4 L4
    rw [show allS [(a0, n0, c0, vs)] = txts vs from by simp [allS]] at hset
    have M5 := Lib.hid hset
    clear hset
    clear L5
    go_wp2_with fail
    clear hHeld
    refine hK.out _ _ ?_ (fun hHeld => ?_)
    · exact X5.out.now.tre
    clear hK K
    refine wpAnyH_ready (rs := [4]) (by kernel_rfl) (by simp) ?_
    refine AllReadyH.cons rfl (fun K hK => ?_) AllReadyH.nil
    rw [if_pos (by rfl)]
    refine upon_countQ _ rfl sb _ _ rfl M5.out ?_
    clear hHeld
    refine hK.out _ _ ?_ (fun hHeld => ?_)
    · exact X5.out.now.tre
    clear hK K
    refine wpAnyH_take (i := 8) (v := ?_) rfl (by kernel_rfl) (by kernel_rfl) (by kernel_rfl) (fun _ _ _ h => h) (Or.inl ⟨by kernel_rfl, ?_⟩) (by assumption) ?_
    rotate_left
    · intro w hSw; (try dsimp only at hSw); go_simp; try with_reducible rfl
    refine wpAnyH_take (i := 9) (v := ?_) rfl (by kernel_rfl) (by kernel_rfl) (by kernel_rfl) (fun _ _ _ h => h) (Or.inl ⟨by kernel_rfl, ?_⟩) (by assumption) ?_
    rotate_left
    · intro w hSw; (try dsimp only at hSw); go_simp; try with_reducible rfl
    refine wpAnyH_take (i := 10) (v := undef) rfl (by kernel_rfl) (by kernel_rfl) (by kernel_rfl) (fun _ _ _ h => h) (Or.inr ⟨by kernel_rfl, rfl⟩) (by assumption) ?_
    refine wpAnyH_take (i := 11) (v := undef) rfl (by kernel_rfl) (by kernel_rfl) (by kernel_rfl) (fun _ _ _ h => h) (Or.inr ⟨by kernel_rfl, rfl⟩) (by assumption) ?_
    refine wpAnyH_take (i := 12) (v := undef) rfl (by kernel_rfl) (by kernel_rfl) (by kernel_rfl) (fun _ _ _ h => h) (Or.inr ⟨by kernel_rfl, rfl⟩) (by assumption) ?_
    refine wpAnyH_take (i := 13) (v := undef) rfl (by kernel_rfl) (by kernel_rfl) (by kernel_rfl) (fun _ _ _ h => h) (Or.inr ⟨by kernel_rfl, rfl⟩) (by assumption) ?_
    refine wpAnyH_take (i := 14) (v := undef) rfl (by kernel_rfl) (by kernel_rfl) (by kernel_rfl) (fun _ _ _ h => h) (Or.inr ⟨by kernel_rfl, rfl⟩) (by assumption) ?_
    refine wpAnyH_take (i := 15) (v := undef) rfl (by kernel_rfl) (by kernel_rfl) (by kernel_rfl) (fun _ _ _ h => h) (Or.inr ⟨by kernel_rfl, rfl⟩) (by assumption) ?_
    refine wpAnyH_take (i := 16) (v := undef) rfl (by kernel_rfl) (by kernel_rfl) (by kernel_rfl) (fun _ _ _ h => h) (Or.inr ⟨by kernel_rfl, rfl⟩) (by assumption) ?_
    refine wpAnyH_take (i := 17) (v := undef) rfl (by kernel_rfl) (by kernel_rfl) (by kernel_rfl) (fun _ _ _ h => h) (Or.inr ⟨by kernel_rfl, rfl⟩) (by assumption) ?_
    refine wpAnyH_take (i := 18) (v := undef) rfl (by kernel_rfl) (by kernel_rfl) (by kernel_rfl) (fun _ _ _ h => h) (Or.inr ⟨by kernel_rfl, rfl⟩) (by assumption) ?_
    refine wpAnyH_take (i := 19) (v := undef) rfl (by kernel_rfl) (by kernel_rfl) (by kernel_rfl) (fun _ _ _ h => h) (Or.inr ⟨by kernel_rfl, rfl⟩) (by assumption) ?_
    refine wpAnyH_take (i := 20) (v := undef) rfl (by kernel_rfl) (by kernel_rfl) (by kernel_rfl) (fun _ _ _ h => h) (Or.inr ⟨by kernel_rfl, rfl⟩) (by assumption) ?_
    refine wpAnyH_take (i := 21) (v := ?_) rfl (by kernel_rfl) (by kernel_rfl) (by kernel_rfl) (fun _ _ _ h => h) (Or.inl ⟨by kernel_rfl, ?_⟩) (by assumption) ?_
    rotate_left
    · intro w hSw; (try dsimp only at hSw); go_simp; try with_reducible rfl
    refine wpAnyH_take (i := 22) (v := ?_) rfl (by kernel_rfl) (by kernel_rfl) (by kernel_rfl) (fun _ _ _ h => h) (Or.inl ⟨by kernel_rfl, ?_⟩) (by assumption) ?_
    rotate_left
    · intro w hSw; (try dsimp only at hSw); go_simp; try with_reducible rfl
    refine wpAnyH_done (by kernel_rfl) ?_ _
    try simp only [Act.put, List.setIfInBounds_toArray, List.set_cons_zero, List.set_cons_succ, List.getElem_toArray, List.getElem_cons_zero, List.getElem_cons_succ]
    clear hHeld
    go_wp2_with fail
    go_ret
    exact ⟨by rw [HF.out]; rfl, B5.out⟩
  · have hc : (((addAllS [] (txts vs)).length : Int) == (n0 : Int)) = true := by unfold distS at hd; rw [HTL.out, decide_eq_true_eq] at hd; rw [hd]; simp
    have HF : Hid (q = subS (addAllS [] (allVars t1 ++ allVars t2)) (txts vs)) := Lib.hid (by rw [HE.out, hd, Bool.true_and])
    clear hd
    go_wp2_with fail
    clear v u z
    have hb : Below w2.heap.size w2 w2.drew := (Below.refl _ _).drew
    have B3 := Lib.hid B2.out.drew
    have X3 := Lib.hid (X2.out.next hb)
    have I3 := Lib.hid (I2.out.next hb)
    clear hb B2 X2 I2
    refine wp_region_held_drew (S := (fun w' => w'.cell? ⟨w.heap.size, 0, none⟩ = some (.slice a0 n0 c0) ∧ w'.cell? ⟨w.heap.size, 1, none⟩ = some (.slice a1 n1 c1) ∧ w'.cell? ⟨w.heap.size, 2, none⟩ = some (.slice a2 n2 c2))) (by kernel_rfl) ?_ (fun hHeld => ?_)
    · exact X3.out.now.tre
    refine wpAnyH_take (i := 0) (v := ?_) rfl (by kernel_rfl) (by kernel_rfl) (by kernel_rfl) (fun _ _ _ h => h) (Or.inl ⟨by kernel_rfl, ?_⟩) (by assumption) ?_
    rotate_left
    · intro w hSw; (try dsimp only at hSw); go_simp; try with_reducible rfl
    refine wpAnyH_take (i := 1) (v := ?_) rfl (by kernel_rfl) (by kernel_rfl) (by kernel_rfl) (fun _ _ _ h => h) (Or.inl ⟨by kernel_rfl, ?_⟩) (by assumption) ?_
    rotate_left
    · intro w hSw; (try dsimp only at hSw); go_simp; try with_reducible rfl
    refine wpAnyH_take (i := 5) (v := ?_) rfl (by kernel_rfl) (by kernel_rfl) (by kernel_rfl) (fun _ _ _ h => h) (Or.inl ⟨by kernel_rfl, ?_⟩) (by assumption) ?_
    rotate_left
    · intro w hSw; (try dsimp only at hSw); go_simp; try with_reducible rfl
    refine wpAnyH_take (i := 6) (v := ?_) rfl (by kernel_rfl) (by kernel_rfl) (by kernel_rfl) (fun _ _ _ h => h) (Or.inl ⟨by kernel_rfl, ?_⟩) (by assumption) ?_
    rotate_left
    · intro w hSw; (try dsimp only at hSw); go_simp; try with_reducible rfl
    refine wpAnyH_take (i := 7) (v := ?_) rfl (by kernel_rfl) (by kernel_rfl) (by kernel_rfl) (fun _ _ _ h => h) (Or.inl ⟨by kernel_rfl, ?_⟩) (by assumption) ?_
    rotate_left
    · intro w hSw; (try dsimp only at hSw); go_simp; try with_reducible rfl
    refine wpAnyH_ready (rs := [2]) (by kernel_rfl) (by simp) ?_
    refine AllReadyH.cons rfl (fun K hK => ?_) AllReadyH.nil
    go_simp
    clear hHeld
    refine hK.out _ _ ?_ (fun hHeld => ?_)
    · exact (X3.out.alloc _).now.tre
    clear hK K
    have hb := (Below.refl (w2.drew).heap.size (w2.drew)).alloc (Nat.le_refl _) (.cells #[.slice a0 n0 c0] 23)
    have B4 := Lib.hid (B3.out.alloc B3.out.size (.cells #[.slice a0 n0 c0] 23))
    have X4 := Lib.hid (X3.out.next hb)
    have I4 := Lib.hid (I3.out.next hb)
    clear hb B3 X3 I3
    have L4 := Lib.hid (cells_new w2.drew #[.slice a0 n0 c0] 23)
    refine wpAnyH_ready (rs := [3]) (by kernel_rfl) (by simp) ?_
    refine AllReadyH.cons rfl (fun K hK => ?_) AllReadyH.nil
    go_simp
    refine (implSetOfQ _ 1 [(a0, n0, c0, vs)] _ rfl (Nat.lt_of_lt_of_le (Nat.lt_succ_self _) L4.out.le) (by omega) (by rw [show allS [(a0, n0, c0, vs)] = txts vs from by simp [allS], HTL.out]; omega) (fun i x hx => by
      have hi := (List.getElem?_eq_some_iff.1 hx).1
      simp only [List.length_singleton] at hi
      obtain rfl : i = 0 := by omega
      simp at hx; subst hx
      exact ⟨L4.out.now.at 0, I4.out.1.1, I4.out.1.2⟩)).mono ?_
    rintro e w5 ⟨sb, sm, rfl, _, hsm, hset, hb⟩
    have B5 := Lib.hid (B4.out.trans (hb.mono B4.out.size))
    have X5 := Lib.hid (X4.out.next hb)
    have I5 := Lib.hid (I4.out.next hb)
    have L5 := Lib.hid (L4.out.next hb)
    clear hb B4 X4 I4 L4
    rw [show allS [(a0, n0, c0, vs)] = txts vs from by simp [allS]] at hset
    have M5 := Lib.hid hset
    clear hset
    clear L5
    go_wp2_with fail
    clear hHeld
    refine hK.out _ _ ?_ (fun hHeld => ?_)
    · exact X5.out.now.tre
    clear hK K
    refine wpAnyH_ready (rs := [4]) (by kernel_rfl) (by simp) ?_
    refine AllReadyH.cons rfl (fun K hK => ?_) AllReadyH.nil
    rw [if_pos (by rfl)]
    refine upon_countQ _ rfl sb _ _ rfl M5.out ?_
    clear hHeld
    refine hK.out _ _ ?_ (fun hHeld => ?_)
    · exact X5.out.now.tre
    clear hK K
    refine wpAnyH_take (i := 8) (v := ?_) rfl (by kernel_rfl) (by kernel_rfl) (by kernel_rfl) (fun _ _ _ h => h) (Or.inl ⟨by kernel_rfl, ?_⟩) (by assumption) ?_
    rotate_left
    · intro w hSw; (try dsimp only at hSw); go_simp; try with_reducible rfl
    refine wpAnyH_take (i := 9) (v := ?_) rfl (by kernel_rfl) (by kernel_rfl) (by kernel_rfl) (fun _ _ _ h => h) (Or.inl ⟨by kernel_rfl, ?_⟩) (by assumption) ?_
    rotate_left
    · intro w hSw; (try dsimp only at hSw); go_simp; try with_reducible rfl
    refine wpAnyH_take (i := 10) (v := ?_) rfl (by kernel_rfl) (by kernel_rfl) (by kernel_rfl) (fun _ _ _ h => h) (Or.inl ⟨by kernel_rfl, ?_⟩) (by assumption) ?_
    rotate_left
    · intro w hSw; (try dsimp only at hSw); go_simp; try with_reducible rfl
    refine wpAnyH_take (i := 11) (v := ?_) rfl (by kernel_rfl) (by kernel_rfl) (by kernel_rfl) (fun _ _ _ h => h) (Or.inl ⟨by kernel_rfl, ?_⟩) (by assumption) ?_
    rotate_left
    · intro w hSw; (try dsimp only at hSw); go_simp; try with_reducible rfl
    refine wpAnyH_take (i := 13) (v := ?_) rfl (by kernel_rfl) (by kernel_rfl) (by kernel_rfl) (fun _ _ _ h => h) (Or.inl ⟨by kernel_rfl, ?_⟩) (by assumption) ?_
    rotate_left
    · intro w hSw; (try dsimp only at hSw); go_simp; try with_reducible rfl
    refine wpAnyH_take (i := 14) (v := ?_) rfl (by kernel_rfl) (by kernel_rfl) (by kernel_rfl) (fun _ _ _ h => h) (Or.inl ⟨by kernel_rfl, ?_⟩) (by assumption) ?_
    rotate_left
    · intro w hSw; (try dsimp only at hSw); go_simp; try with_reducible rfl
    refine wpAnyH_take (i := 18) (v := ?_) rfl (by kernel_rfl) (by kernel_rfl) (by kernel_rfl) (fun _ _ _ h => h) (Or.inl ⟨by kernel_rfl, ?_⟩) (by assumption) ?_
    rotate_left
    · intro w hSw; (try dsimp only at hSw); go_simp; try with_reducible rfl
    refine wpAnyH_take (i := 19) (v := ?_) rfl (by kernel_rfl) (by kernel_rfl) (by kernel_rfl) (fun _ _ _ h => h) (Or.inl ⟨by kernel_rfl, ?_⟩) (by assumption) ?_
    rotate_left
    · intro w hSw; (try dsimp only at hSw); go_simp; try with_reducible rfl
    refine wpAnyH_ready (rs := [12]) (by kernel_rfl) (by simp) ?_
    refine AllReadyH.cons rfl (fun K hK => ?_) AllReadyH.nil
    go_simp
    refine (implVarsOf a1 n1 c1 t1 _ I5.out.2.1 HS1.out).mono ?_
    rintro e w6 ⟨va, rfl, ho, hb⟩
    have B6 := Lib.hid (B5.out.trans (hb.mono B5.out.size))
    have X6 := Lib.hid (X5.out.next hb)
    have I6 := Lib.hid (I5.out.next hb)
    have M6 := Lib.hid (M5.out.next hb)
    clear hb B5 X5 I5 M5
    obtain ⟨pa, pc, rfl, ip⟩ := ho.is
    obtain ⟨pn, hpn⟩ : ∃ n, ((varsT t1).map bs).length = n := ⟨_, rfl⟩
    rw [hpn] at ip ⊢
    rw [HV1.out] at ip
    have hpl : pn ≤ 12 := by rw [← hpn, List.length_map]; exact varsT_most t1
    clear ho hpn
    have P6 := Lib.hid ip
    clear ip
    go_wp2_with fail
    clear hHeld
    refine hK.out _ _ ?_ (fun hHeld => ?_)
    · exact X6.out.now.tre
    clear hK K
    refine wpAnyH_ready (rs := [15]) (by kernel_rfl) (by simp) ?_
    refine AllReadyH.cons rfl (fun K hK => ?_) AllReadyH.nil
    go_simp
    refine (implVarsOf a2 n2 c2 t2 _ I6.out.2.2 HS2.out).mono ?_
    rintro e w7 ⟨vb, rfl, ho, hb⟩
    have B7 := Lib.hid (B6.out.trans (hb.mono B6.out.size))
    have X7 := Lib.hid (X6.out.next hb)
    have I7 := Lib.hid (I6.out.next hb)
    have M7 := Lib.hid (M6.out.next hb)
    have P7 := Lib.hid (P6.out.next hb)
    clear hb B6 X6 I6 M6 P6
    obtain ⟨qa, qc, rfl, ir⟩ := ho.is
    obtain ⟨qn, hqn⟩ : ∃ n, ((varsT t2).map bs).length = n := ⟨_, rfl⟩
    rw [hqn] at ir ⊢
    rw [HV2.out] at ir
    have hql : qn ≤ 12 := by rw [← hqn, List.length_map]; exact varsT_most t2
    clear ho hqn
    have R7 := Lib.hid ir
    clear ir
    go_wp2_with fail
    clear hHeld
    refine hK.out _ _ ?_ (fun hHeld => ?_)
    · exact X7.out.now.tre
    clear hK K
    refine wpAnyH_ready (rs := [16]) (by kernel_rfl) (by simp) ?_
    refine AllReadyH.cons rfl (fun K hK => ?_) AllReadyH.nil
    go_simp
    clear hHeld
    refine hK.out _ _ ?_ (fun hHeld => ?_)
    · exact (X7.out.alloc _).now.tre
    clear hK K
    have hb := (Below.refl (w7).heap.size (w7)).alloc (Nat.le_refl _) (.cells #[.slice pa pn pc, .slice qa qn qc] 23)
    have B8 := Lib.hid (B7.out.alloc B7.out.size (.cells #[.slice pa pn pc, .slice qa qn qc] 23))
    have X8 := Lib.hid (X7.out.next hb)
    have I8 := Lib.hid (I7.out.next hb)
    have M8 := Lib.hid (M7.out.next hb)
    have P8 := Lib.hid (P7.out.next hb)
    have R8 := Lib.hid (R7.out.next hb)
    clear hb B7 X7 I7 M7 P7 R7
    have L8 := Lib.hid (cells_new w7 #[.slice pa pn pc, .slice qa qn qc] 23)
    refine wpAnyH_ready (rs := [17]) (by kernel_rfl) (by simp) ?_
    refine AllReadyH.cons rfl (fun K hK => ?_) AllReadyH.nil
    go_simp
    refine (implSetOfQ _ 2 [(pa, pn, pc, (allVars t1).map bs), (qa, qn, qc, (allVars t2).map bs)] _ rfl (Nat.lt_of_lt_of_le (Nat.lt_succ_self _) L8.out.le) (by omega) (by rw [show allS [(pa, pn, pc, (allVars t1).map bs), (qa, qn, qc, (allVars t2).map bs)] = allVars t1 ++ allVars t2 from by simp [allS, txts_bs], List.length_append, ← HV1.out, ← HV2.out]; have := varsT_most t1; have := varsT_most t2; omega) (fun i x hx => by
      have hi := (List.getElem?_eq_some_iff.1 hx).1
      simp only [List.length_cons, List.length_nil] at hi
      obtain rfl | rfl : i = 0 ∨ i = 1 := by omega
      · simp at hx; subst hx
        exact ⟨by simp, P8.out, by rw [← HV1.out]; exact varsT_small HS1.out⟩
      · simp at hx; subst hx
        exact ⟨by simp, R8.out, by rw [← HV2.out]; exact varsT_small HS2.out⟩)).mono ?_
    rintro e w9 ⟨sb2, sm2, rfl, _, hsm2, hset, hb⟩
    have B9 := Lib.hid (B8.out.trans (hb.mono B8.out.size))
    have X9 := Lib.hid (X8.out.next hb)
    have I9 := Lib.hid (I8.out.next hb)
    have M9 := Lib.hid (M8.out.next hb)
    have P9 := Lib.hid (P8.out.next hb)
    have R9 := Lib.hid (R8.out.next hb)
    have L9 := Lib.hid (L8.out.next hb)
    clear hb B8 X8 I8 M8 P8 R8 L8
    rw [show allS [(pa, pn, pc, (allVars t1).map bs), (qa, qn, qc, (allVars t2).map bs)] = allVars t1 ++ allVars t2 from by simp [allS, txts_bs]] at hset
    have N9 := Lib.hid hset
    clear hset
    clear L9
    go_wp2_with fail
    clear hHeld
    refine hK.out _ _ ?_ (fun hHeld => ?_)
    · exact X9.out.now.tre
    clear hK K
    refine wpAnyH_ready (rs := [20]) (by kernel_rfl) (by simp) ?_
    refine AllReadyH.cons rfl (fun K hK => ?_) AllReadyH.nil
    go_simp
    refine (implHasAllQ sb2 sm2 _ a0 n0 c0 vs _ N9.out I9.out.1.1 I9.out.1.2 l0).mono ?_
    rintro e w10 ⟨rfl, hb⟩
    have B10 := Lib.hid (B9.out.trans (hb.mono B9.out.size))
    have X10 := Lib.hid (X9.out.next hb)
    have I10 := Lib.hid (I9.out.next hb)
    have M10 := Lib.hid (M9.out.next hb)
    have P10 := Lib.hid (P9.out.next hb)
    have R10 := Lib.hid (R9.out.next hb)
    have N10 := Lib.hid (N9.out.next hb)
    clear hb B9 X9 I9 M9 P9 R9 N9
    go_wp2_with fail
    clear hHeld
    refine hK.out _ _ ?_ (fun hHeld => ?_)
    · exact X10.out.now.tre
    clear hK K
    refine wpAnyH_take (i := 21) (v := ?_) rfl (by kernel_rfl) (by kernel_rfl) (by kernel_rfl) (fun _ _ _ h => h) (Or.inl ⟨by kernel_rfl, ?_⟩) (by assumption) ?_
    rotate_left
    · intro w hSw; (try dsimp only at hSw); go_simp; try with_reducible rfl
    refine wpAnyH_take (i := 22) (v := ?_) rfl (by kernel_rfl) (by kernel_rfl) (by kernel_rfl) (fun _ _ _ h => h) (Or.inl ⟨by kernel_rfl, ?_⟩) (by assumption) ?_
    rotate_left
    · intro w hSw; (try dsimp only at hSw); go_simp; try with_reducible rfl
    refine wpAnyH_done (by kernel_rfl) ?_ _
    try simp only [Act.put, List.setIfInBounds_toArray, List.set_cons_zero, List.set_cons_succ, List.getElem_toArray, List.getElem_cons_zero, List.getElem_cons_succ]
    clear hHeld
    go_wp2_with fail
    go_ret
    exact ⟨by rw [HF.out]; rfl, B10.out⟩
end Go.Proofs.YtiajdnhmjdfeeaaGreat
namespace Go.Proofs.YtiajdnhmjdfeeaaGreat
open Go.RowKit Go.WideShapes
set_option maxRecDepth 100000 in
set_option maxHeartbeats 6400000 in
theorem implAnswer (a : Option Addr) (la ca : Nat) (gs : List Tri3) (a0 a1 a2 : Option Addr) (n0 n1 n2 c0 c1 c2 : Nat) (vs : List ByteArray) (t1 t2 : List Tri3) (w : World) (ha : IsTris w a la ca gs) (h : IsQry w a0 a1 a2 n0 n1 n2 c0 c1 c2 vs t1 t2) (hga : SmT gs) (s0 : ∀ t ∈ vs, t.size ≤ 1048576) (s1 : SmT t1) (s2 : SmT t2) (l0 : n0 ≤ 1048576) :
    Calls Tryz.prog 13 #[.slice a la ca, .agg #[.slice a0 n0 c0, .slice a1 n1 c1, .slice a2 n2 c2]] w fun e w' => ∃ v, e = .returned (.tuple #[v, .bool (ansOk gs vs t1 t2)]) ∧ OwnRs w.heap.size w' v (ansR gs vs t1 t2) ∧ Below w.heap.size w w' := by
  have B0 := Lib.hid ((Below.refl w.heap.size w).alloc (Nat.le_refl _) (.cells #[.slice a0 n0 c0, .slice a1 n1 c1, .slice a2 n2 c2] 34))
  have X0 := Lib.hid (cells_new w #[.slice a0 n0 c0, .slice a1 n1 c1, .slice a2 n2 c2] 34)
  have I0 := Lib.hid (h.next ((Below.refl w.heap.size w).alloc (Nat.le_refl _) (.cells #[.slice a0 n0 c0, .slice a1 n1 c1, .slice a2 n2 c2] 34)))
  have A0 := Lib.hid (ha.next ((Below.refl w.heap.size w).alloc (Nat.le_refl _) (.cells #[.slice a0 n0 c0, .slice a1 n1 c1, .slice a2 n2 c2] 34)))
  have HS1 := Lib.hid s1
  have HS2 := Lib.hid s2
  have HGA := Lib.hid hga
  have HS0 := Lib.hid s0
  have HT2 := Lib.hid h.2.2.len
  have HLA := Lib.hid ha.len
  have HT1 := Lib.hid h.2.1.len
  obtain ⟨bb, hbb⟩ : ∃ q, ansOk gs vs t1 t2 = q := ⟨_, rfl⟩
  obtain ⟨R, hR⟩ : ∃ q, ansR gs vs t1 t2 = q := ⟨_, rfl⟩
  have HBB := Lib.hid hbb
  have HRR := Lib.hid hR
  rw [hbb, hR]
  clear h ha s0 s1 s2 hga hbb hR
  cases hq : queryOk vs t1 t2
  · have HF : Hid (bb = false ∧ R = []) := Lib.hid (by rw [← HBB.out, ← HRR.out]; exact ans_none (ansRows_q hq))
    have Cq := fun (W : World) (hi : IsQry W a0 a1 a2 n0 n1 n2 c0 c1 c2 vs t1 t2) => implQueryOk a0 a1 a2 n0 n1 n2 c0 c1 c2 vs t1 t2 W hi HS1.out.sm HS2.out.sm l0
    rw [hq] at Cq
    have HQ := Lib.hid Cq
    clear Cq
    clear hq
    go_enter Tryz.func13, Tryz.ntmps13
    obtain ⟨xv0, xv1, xv2⟩ := X0.out.now.tre
    go_wp2_with fail
    refine (HQ.out _ I0.out).mono ?_
    rintro e w1 ⟨rfl, hb⟩
    clear xv0 xv1 xv2
    have B1 := Lib.hid (B0.out.trans (hb.mono B0.out.size))
    have X1 := Lib.hid (X0.out.next hb)
    have I1 := Lib.hid (I0.out.next hb)
    have A1 := Lib.hid (A0.out.next hb)
    clear hb B0 X0 I0 A0
    obtain ⟨xv0, xv1, xv2⟩ := X1.out.now.tre
    go_wp2_with fail
    go_ret2
    exact ⟨_, by rw [HF.out.1]; rfl, by rw [HF.out.2]; exact OwnRs.none _ _, B1.out⟩
  have Cq := fun (W : World) (hi : IsQry W a0 a1 a2 n0 n1 n2 c0 c1 c2 vs t1 t2) => implQueryOk a0 a1 a2 n0 n1 n2 c0 c1 c2 vs t1 t2 W hi HS1.out.sm HS2.out.sm l0
  rw [hq] at Cq
  have HQ := Lib.hid Cq
  clear Cq
  have HBG := Lib.hid (queryOk_bgp hq)
  obtain ⟨rs, hrs⟩ : ∃ q, solR gs t1 = q := ⟨_, rfl⟩
  have HRS := Lib.hid hrs
  have HSM : Hid (SmR rs) := Lib.hid (by rw [← hrs]; exact solR_sm HGA.out HS1.out)
  have Cs := fun (W : World) (hx : IsTris W a la ca gs) (hy : IsTris W a1 n1 c1 t1) => implSolutions a a1 la ca n1 c1 gs t1 W hx hy HGA.out HS1.out
  rw [hrs] at Cs
  clear hrs
  cases hs : solOk gs t1
  · have HF : Hid (bb = false ∧ R = []) := Lib.hid (by rw [← HBB.out, ← HRR.out]; exact ans_none (ansRows_s hs))
    rw [hs] at Cs
    have HS := Lib.hid Cs
    clear Cs hs hq
    go_enter Tryz.func13, Tryz.ntmps13
    obtain ⟨xv0, xv1, xv2⟩ := X0.out.now.tre
    go_wp2_with fail
    refine (HQ.out _ I0.out).mono ?_
    rintro e w1 ⟨rfl, hb⟩
    clear xv0 xv1 xv2
    have B1 := Lib.hid (B0.out.trans (hb.mono B0.out.size))
    have X1 := Lib.hid (X0.out.next hb)
    have I1 := Lib.hid (I0.out.next hb)
    have A1 := Lib.hid (A0.out.next hb)
    clear hb B0 X0 I0 A0
    obtain ⟨xv0, xv1, xv2⟩ := X1.out.now.tre
    go_wp2_with fail
    refine (HS.out _ A1.out I1.out.2.1).mono ?_
    rintro e w2 ⟨v, rfl, ho, hb⟩
    clear xv0 xv1 xv2
    have B2 := Lib.hid (B1.out.trans (hb.mono B1.out.size))
    have X2 := Lib.hid (X1.out.next hb)
    have I2 := Lib.hid (I1.out.next hb)
    have A2 := Lib.hid (A1.out.next hb)
    clear hb B1 X1 I1 A1
    clear ho
    obtain ⟨xv0, xv1, xv2⟩ := X2.out.now.tre
    go_wp2_with fail
    go_ret2
    exact ⟨_, by rw [HF.out.1]; rfl, by rw [HF.out.2]; exact OwnRs.none _ _, B2.out⟩
  rw [hs] at Cs
  have HS := Lib.hid Cs
  clear Cs
  by_cases hn2 : n2 = 0
  · have HF : Hid (bb = projOk rs vs ∧ R = projR rs vs) := Lib.hid (by rw [← HBB.out, ← HRR.out, ← HRS.out]; exact ans_some (ansRows_0 hq hs (by rw [HT2.out]; exact hn2)))
    have HP := Lib.hid (fun (x : Option Addr) (n c : Nat) (W : World) (hx : IsRows W x n c rs) (hy : IsStrs W a0 n0 c0 vs) => implProjected x a0 n c n0 c0 rs vs W hx hy HSM.out HS0.out l0)
    have hz : ¬ 0 < n2 := by omega
    clear hq hs hn2
    go_enter Tryz.func13, Tryz.ntmps13
    obtain ⟨xv0, xv1, xv2⟩ := X0.out.now.tre
    go_wp2_with fail
    refine (HQ.out _ I0.out).mono ?_
    rintro e w1 ⟨rfl, hb⟩
    clear xv0 xv1 xv2
    have B1 := Lib.hid (B0.out.trans (hb.mono B0.out.size))
    have X1 := Lib.hid (X0.out.next hb)
    have I1 := Lib.hid (I0.out.next hb)
    have A1 := Lib.hid (A0.out.next hb)
    clear hb B0 X0 I0 A0
    obtain ⟨xv0, xv1, xv2⟩ := X1.out.now.tre
    go_wp2_with fail
    refine (HS.out _ A1.out I1.out.2.1).mono ?_
    rintro e w2 ⟨v, rfl, ho, hb⟩
    clear xv0 xv1 xv2
    have B2 := Lib.hid (B1.out.trans (hb.mono B1.out.size))
    have X2 := Lib.hid (X1.out.next hb)
    have I2 := Lib.hid (I1.out.next hb)
    have A2 := Lib.hid (A1.out.next hb)
    clear hb B1 X1 I1 A1
    obtain ⟨rx, rc, rfl, ri⟩ := ho.is (fun r hr t ht => by have := HSM.out r hr t ht; unfold maxLen; omega)
    clear ho
    have Y2 := Lib.hid ri
    clear ri
    obtain ⟨xv0, xv1, xv2⟩ := X2.out.now.tre
    go_wp2_with fail
    refine (HP.out _ _ _ _ Y2.out I2.out.1.1).mono ?_
    rintro e wz ⟨v, rfl, ho, hb⟩
    clear xv0 xv1 xv2
    have BZ := Lib.hid (B2.out.trans (hb.mono B2.out.size))
    have HO := Lib.hid (ho.base B2.out.size)
    clear ho
    clear hb B2 X2 I2 A2 Y2
    go_wp2_with fail
    go_ret2
    exact ⟨_, by rw [HF.out.1]; rfl, by rw [HF.out.2]; exact HO.out, BZ.out⟩
  have hz : 0 < n2 := by omega
  have hn3 : ¬ t2.length = 0 := by rw [HT2.out]; exact hn2
  have Cx := fun (x : Option Addr) (n c : Nat) (W : World) (hx : IsTris W a la ca gs) (hr : IsRows W x n c rs) (hy : IsTris W a2 n2 c2 t2) => implExtended a x a2 la ca n c n2 c2 gs rs t2 W hx hr hy HGA.out HSM.out HS2.out
  cases hx : extOk gs rs t2
  · have HF : Hid (bb = false ∧ R = []) := Lib.hid (by rw [← HBB.out, ← HRR.out]; exact ans_none (ansRows_y hn3 (by rw [HRS.out]; exact hx)))
    rw [hx] at Cx
    have HX := Lib.hid Cx
    clear Cx hx hq hs hn2 hn3
    go_enter Tryz.func13, Tryz.ntmps13
    obtain ⟨xv0, xv1, xv2⟩ := X0.out.now.tre
    go_wp2_with fail
    refine (HQ.out _ I0.out).mono ?_
    rintro e w1 ⟨rfl, hb⟩
    clear xv0 xv1 xv2
    have B1 := Lib.hid (B0.out.trans (hb.mono B0.out.size))
    have X1 := Lib.hid (X0.out.next hb)
    have I1 := Lib.hid (I0.out.next hb)
    have A1 := Lib.hid (A0.out.next hb)
    clear hb B0 X0 I0 A0
    obtain ⟨xv0, xv1, xv2⟩ := X1.out.now.tre
    go_wp2_with fail
    refine (HS.out _ A1.out I1.out.2.1).mono ?_
    rintro e w2 ⟨v, rfl, ho, hb⟩
    clear xv0 xv1 xv2
    have B2 := Lib.hid (B1.out.trans (hb.mono B1.out.size))
    have X2 := Lib.hid (X1.out.next hb)
    have I2 := Lib.hid (I1.out.next hb)
    have A2 := Lib.hid (A1.out.next hb)
    clear hb B1 X1 I1 A1
    obtain ⟨rx, rc, rfl, ri⟩ := ho.is (fun r hr t ht => by have := HSM.out r hr t ht; unfold maxLen; omega)
    clear ho
    have Y2 := Lib.hid ri
    clear ri
    obtain ⟨xv0, xv1, xv2⟩ := X2.out.now.tre
    go_wp2_with fail
    refine (HX.out _ _ _ _ A2.out Y2.out I2.out.2.2).mono ?_
    rintro e w3 ⟨v, rfl, ho, hb⟩
    clear xv0 xv1 xv2
    have B3 := Lib.hid (B2.out.trans (hb.mono B2.out.size))
    have X3 := Lib.hid (X2.out.next hb)
    have I3 := Lib.hid (I2.out.next hb)
    have A3 := Lib.hid (A2.out.next hb)
    have Y3 := Lib.hid (Y2.out.next hb)
    clear hb B2 X2 I2 A2 Y2
    clear ho
    obtain ⟨xv0, xv1, xv2⟩ := X3.out.now.tre
    go_wp2_with fail
    go_ret2
    exact ⟨_, by rw [HF.out.1]; rfl, by rw [HF.out.2]; exact OwnRs.none _ _, B3.out⟩
  · obtain ⟨us, hus⟩ : ∃ q, extR gs rs t2 = q := ⟨_, rfl⟩
    have HSU : Hid (SmR us) := Lib.hid (by rw [← hus]; exact extR_sm HGA.out HSM.out HS2.out)
    have HF : Hid (bb = projOk us vs ∧ R = projR us vs) := Lib.hid (by rw [← HBB.out, ← HRR.out, ← hus, ← HRS.out]; exact ans_some (ansRows_x hq hs hn3 (by rw [HRS.out]; exact hx)))
    rw [hx, hus] at Cx
    have HX := Lib.hid Cx
    have HP := Lib.hid (fun (x : Option Addr) (n c : Nat) (W : World) (hx : IsRows W x n c us) (hy : IsStrs W a0 n0 c0 vs) => implProjected x a0 n c n0 c0 us vs W hx hy HSU.out HS0.out l0)
    clear Cx hx hq hs hn2 hn3 hus
    go_enter Tryz.func13, Tryz.ntmps13
    obtain ⟨xv0, xv1, xv2⟩ := X0.out.now.tre
    go_wp2_with fail
    refine (HQ.out _ I0.out).mono ?_
    rintro e w1 ⟨rfl, hb⟩
    clear xv0 xv1 xv2
    have B1 := Lib.hid (B0.out.trans (hb.mono B0.out.size))
    have X1 := Lib.hid (X0.out.next hb)
    have I1 := Lib.hid (I0.out.next hb)
    have A1 := Lib.hid (A0.out.next hb)
    clear hb B0 X0 I0 A0
    obtain ⟨xv0, xv1, xv2⟩ := X1.out.now.tre
    go_wp2_with fail
    refine (HS.out _ A1.out I1.out.2.1).mono ?_
    rintro e w2 ⟨v, rfl, ho, hb⟩
    clear xv0 xv1 xv2
    have B2 := Lib.hid (B1.out.trans (hb.mono B1.out.size))
    have X2 := Lib.hid (X1.out.next hb)
    have I2 := Lib.hid (I1.out.next hb)
    have A2 := Lib.hid (A1.out.next hb)
    clear hb B1 X1 I1 A1
    obtain ⟨rx, rc, rfl, ri⟩ := ho.is (fun r hr t ht => by have := HSM.out r hr t ht; unfold maxLen; omega)
    clear ho
    have Y2 := Lib.hid ri
    clear ri
    obtain ⟨xv0, xv1, xv2⟩ := X2.out.now.tre
    go_wp2_with fail
    refine (HX.out _ _ _ _ A2.out Y2.out I2.out.2.2).mono ?_
    rintro e w3 ⟨v, rfl, ho, hb⟩
    clear xv0 xv1 xv2
    have B3 := Lib.hid (B2.out.trans (hb.mono B2.out.size))
    have X3 := Lib.hid (X2.out.next hb)
    have I3 := Lib.hid (I2.out.next hb)
    have A3 := Lib.hid (A2.out.next hb)
    have Y3 := Lib.hid (Y2.out.next hb)
    clear hb B2 X2 I2 A2 Y2
    clear Y3
    obtain ⟨rx, rc, rfl, ri⟩ := ho.is (fun r hr t ht => by have := HSU.out r hr t ht; unfold maxLen; omega)
    clear ho
    have Y3 := Lib.hid ri
    clear ri
    obtain ⟨xv0, xv1, xv2⟩ := X3.out.now.tre
    go_wp2_with fail
    refine (HP.out _ _ _ _ Y3.out I3.out.1.1).mono ?_
    rintro e wz ⟨v, rfl, ho, hb⟩
    clear xv0 xv1 xv2
    have BZ := Lib.hid (B3.out.trans (hb.mono B3.out.size))
    have HO := Lib.hid (ho.base B3.out.size)
    clear ho
    clear hb B3 X3 I3 A3 Y3
    go_wp2_with fail
    go_ret2
    exact ⟨_, by rw [HF.out.1]; rfl, by rw [HF.out.2]; exact HO.out, BZ.out⟩
end Go.Proofs.YtiajdnhmjdfeeaaGreat
