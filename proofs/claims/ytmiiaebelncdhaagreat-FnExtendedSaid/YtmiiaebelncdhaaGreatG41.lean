/- Rows that are extended: plain facts. -/
import Derived.Test.YtmiiaebelncdhaaGreatG34
import Derived.Test.YtmiiaebelncdhaaGreatG24
import Derived.Test.YtmiiaebelncdhaaGreatG14
namespace Go.Proofs.YtmiiaebelncdhaaGreat
open Go.RowKit Go.WideShapes Go.Maps Go.Sort Go.Shelf
/-- What one row gives: what comes of it, or itself. -/
def orOne (r : RowV) (M : List RowV) : List RowV := if M.length = 0 then [r] else M
def moreS (gs ls : List Tri3) (r : RowV) : Option (List RowV) := (solveM gs ls [r]).map (orOne r)
def moreC (gs ls : List Tri3) (r : RowV) : Option (List RowV) := (contM gs ls [r]).map (orOne r)
/-- What all rows give, one behind the other. -/
def allX (f : RowV → Option (List RowV)) : List RowV → Option (List RowV)
  | [] => some []
  | r :: rs => (f r).bind fun M => (allX f rs).map fun A => M ++ A
theorem allX_snoc (f : RowV → Option (List RowV)) (r : RowV) : ∀ rs : List RowV, allX f (rs ++ [r]) = (allX f rs).bind fun A => (f r).map fun M => A ++ M
  | [] => by
    show (f r).bind _ = _
    cases h : f r <;> simp [allX]
  | s :: rs => by
    show (f s).bind _ = _
    have e : allX f (s :: rs) = (f s).bind fun M => (allX f rs).map fun A => M ++ A := rfl
    rw [e]
    cases h : f s with
    | none => rfl
    | some M =>
      show (allX f (rs ++ [r])).map _ = _
      rw [allX_snoc f r rs]
      cases h2 : allX f rs with
      | none => simp
      | some A => cases h3 : f r <;> simp
theorem allX_none {f : RowV → Option (List RowV)} {r : RowV} (h : f r = none) : ∀ {rs : List RowV}, r ∈ rs → allX f rs = none
  | [], hr => by simp at hr
  | s :: rs, hr => by
    have e : allX f (s :: rs) = (f s).bind fun M => (allX f rs).map fun A => M ++ A := rfl
    rw [e]
    rcases List.mem_cons.1 hr with rfl | hr
    · rw [h]; rfl
    · rw [allX_none h hr]
      cases f s <;> rfl
theorem allX_mem {f : RowV → Option (List RowV)} : ∀ {rs A : List RowV}, allX f rs = some A → ∀ x, x ∈ A ↔ ∃ r ∈ rs, ∃ M, f r = some M ∧ x ∈ M
  | [], A, h, x => by
    have : A = [] := (Option.some.inj h).symm
    subst this
    simp
  | s :: rs, A, h, x => by
    have e : allX f (s :: rs) = (f s).bind fun M => (allX f rs).map fun A => M ++ A := rfl
    rw [e] at h
    cases h1 : f s with
    | none => rw [h1] at h; cases h
    | some M =>
      rw [h1] at h
      cases h2 : allX f rs with
      | none => rw [h2] at h; cases h
      | some B =>
        rw [h2] at h
        have : A = M ++ B := (Option.some.inj h).symm
        subst this
        rw [List.mem_append, allX_mem h2 x]
        constructor
        · rintro (hx | ⟨r, hr, N, hN, hx⟩)
          · exact ⟨s, List.mem_cons_self .., M, h1, hx⟩
          · exact ⟨r, List.mem_cons_of_mem _ hr, N, hN, hx⟩
        · rintro ⟨r, hr, N, hN, hx⟩
          rcases List.mem_cons.1 hr with rfl | hr
          · rw [h1] at hN
            cases hN
            exact .inl hx
          · exact .inr ⟨r, hr, N, hN, hx⟩
theorem allX_some {f : RowV → Option (List RowV)} : ∀ {rs : List RowV}, (∀ r ∈ rs, (f r).isSome = true) → (allX f rs).isSome = true
  | [], _ => rfl
  | s :: rs, h => by
    have e : allX f (s :: rs) = (f s).bind fun M => (allX f rs).map fun A => M ++ A := rfl
    rw [e]
    have h1 := h s (List.mem_cons_self ..)
    have h2 := allX_some (f := f) (rs := rs) (fun r hr => h r (List.mem_cons_of_mem _ hr))
    cases hf : f s with
    | none => rw [hf] at h1; cases h1
    | some M =>
      cases ha : allX f rs with
      | none => rw [ha] at h2; cases h2
      | some B => rfl
theorem allX_len {f : RowV → Option (List RowV)} {m : Nat} (hf : ∀ r M, f r = some M → M.length ≤ m) : ∀ {rs A : List RowV}, allX f rs = some A → A.length ≤ rs.length * m
  | [], A, h => by
    have : A = [] := (Option.some.inj h).symm
    subst this
    simp
  | s :: rs, A, h => by
    have e : allX f (s :: rs) = (f s).bind fun M => (allX f rs).map fun A => M ++ A := rfl
    rw [e] at h
    cases h1 : f s with
    | none => rw [h1] at h; cases h
    | some M =>
      rw [h1] at h
      cases h2 : allX f rs with
      | none => rw [h2] at h; cases h
      | some B =>
        rw [h2] at h
        have : A = M ++ B := (Option.some.inj h).symm
        subst this
        have := hf s M h1
        have := allX_len hf h2
        rw [List.length_append, List.length_cons, Nat.add_mul]
        omega
/-- Both ways give the same rows of a right row. -/
theorem more_same {gs ls : List Tri3} (hg : graphOk gs = true) (hl : bgpOk ls = true) {r : RowV} (hr : rowOk r = true) : (moreS gs ls r).isSome = (moreC gs ls r).isSome ∧ ∀ S C, moreS gs ls r = some S → moreC gs ls r = some C → ∀ x, x ∈ S ↔ x ∈ C := by
  obtain ⟨_, h2, h3⟩ := graphOk_iff.1 hg
  have ha := asc_ok hr
  have hz : NoZs [r] := fun s hs t ht => by
    obtain rfl : s = r := by simpa using hs
    have hp := gUpto_mem (by unfold rowOk at hr; simp only [Bool.and_eq_true] at hr; exact hr.2) t ht
    unfold pairT isVarK isValK at hp
    simp only [Bool.and_eq_true, Bool.or_eq_true, decide_eq_true_eq] at hp
    exact ⟨no_zero (by omega), no_zero (by omega)⟩
  have h := solve_is h3.nodup (fun t ht => okT_noZ (h2 t ht)) ls [r] (fun p hp => patT_noZ ((bgpOk_iff.1 hl).2 p hp)) (Even.one r ha) hz
  have e : addAllR [] [r] = [r] := addR_more (rs := []) (k := 0) rfl (by simp)
  rw [e] at h
  unfold moreS moreC
  rw [h]
  cases hc : contM gs ls [r] with
  | none => exact ⟨rfl, fun S C h => by cases h⟩
  | some R =>
    have hn := (contM_even h3.nodup ls _ R (Even.one r ha) hc).1
    have hzR : NoZs R := by
      have key : ∀ (l : List Tri3) (rows : List RowV), (∀ p ∈ l, patT p = true) → NoZs rows → contM gs l rows = some R → NoZs R := by
        intro l
        induction l with
        | nil => intro rows _ hz e; unfold contM at e; cases e; exact hz
        | cons p l ih =>
          intro rows hl hz e
          unfold contM at e
          by_cases hc : (joinM gs p rows).length ≤ 300
          · rw [if_pos hc] at e
            exact ih _ (fun q hq => hl q (List.mem_cons_of_mem _ hq)) (hz.join (fun t ht => okT_noZ (h2 t ht)) (patT_noZ (hl p (List.mem_cons_self ..)))) e
          · rw [if_neg hc] at e; cases e
      exact key ls [r] (bgpOk_iff.1 hl).2 hz hc
    refine ⟨rfl, fun S C hS hC x => ?_⟩
    have hS' : S = orOne r (addAllR [] R) := (Option.some.inj hS).symm
    have hC' : C = orOne r R := (Option.some.inj hC).symm
    rw [hS', hC']
    unfold orOne
    rw [(addAllR_perm hn hzR).length_eq]
    by_cases h0 : R.length = 0
    · rw [if_pos h0, if_pos h0]
    · rw [if_neg h0, if_neg h0]
      exact addAllR_iff hn hzR x
theorem addR_atleast (rs : List RowV) (r : RowV) : rs.length ≤ (addR rs r).length := by
  unfold addR
  split
  · exact Nat.le_refl _
  · simp only [List.length_append, List.length_take, List.length_cons, List.length_nil, List.length_drop]
    omega
theorem addAllR_atleast : ∀ (l rs : List RowV), rs.length ≤ (addAllR rs l).length
  | [], _ => Nat.le_refl _
  | r :: l, rs => Nat.le_trans (addR_atleast rs r) (addAllR_atleast l (addR rs r))
theorem addAllR_app2 (rs l m : List RowV) : addAllR rs (l ++ m) = addAllR (addAllR rs l) m := by unfold addAllR; rw [List.foldl_append]
def finX (o : Option (List RowV)) : Bool := match o with
  | some A => A.all rowOk && decide ((addAllR [] A).length ≤ 300)
  | none => false
def extA (gs : List Tri3) (rs : List RowV) (ls : List Tri3) : Option (List RowV) := allX (moreS gs ls) rs
def extOk (gs : List Tri3) (rs : List RowV) (ls : List Tri3) : Bool := graphOk gs && (rowsOkL rs && (bgpOk ls && finX (extA gs rs ls)))
def extR (gs : List Tri3) (rs : List RowV) (ls : List Tri3) : List RowV := if extOk gs rs ls = true then addAllR [] ((extA gs rs ls).getD []) else []
theorem extR_no {gs ls : List Tri3} {rs : List RowV} (h : extOk gs rs ls = false) : extR gs rs ls = [] := by
  unfold extR
  rw [h]
  rfl
/-- Where the rows up to a place are known, the rest is behind them. -/
theorem allX_part {f : RowV → Option (List RowV)} {rs A : List RowV} {k : Nat} (h : allX f (rs.take k) = some A) {B : List RowV} (hB : allX f rs = some B) : ∃ C, B = A ++ C := by
  have key : ∀ (xs ys A B : List RowV), allX f xs = some A → allX f (xs ++ ys) = some B → ∃ C, B = A ++ C := by
    intro xs
    induction xs with
    | nil => intro ys A B h1 h2; exact ⟨B, by rw [(Option.some.inj h1).symm]; rfl⟩
    | cons s xs ih =>
      intro ys A B h1 h2
      have e1 : allX f (s :: xs) = (f s).bind fun M => (allX f xs).map fun A => M ++ A := rfl
      have e2 : allX f (s :: xs ++ ys) = (f s).bind fun M => (allX f (xs ++ ys)).map fun A => M ++ A := rfl
      rw [e1] at h1
      rw [e2] at h2
      cases hf : f s with
      | none => rw [hf] at h1; cases h1
      | some M =>
        rw [hf] at h1 h2
        cases ha : allX f xs with
        | none => rw [ha] at h1; cases h1
        | some A' =>
          cases hb : allX f (xs ++ ys) with
          | none => rw [hb] at h2; cases h2
          | some B' =>
            rw [ha] at h1
            rw [hb] at h2
            obtain ⟨C, hC⟩ := ih ys A' B' ha hb
            refine ⟨C, ?_⟩
            rw [← Option.some.inj h1, ← Option.some.inj h2, hC, List.append_assoc]
  refine key (rs.take k) (rs.drop k) A B h ?_
  rwa [List.take_append_drop]
theorem allX_step {f : RowV → Option (List RowV)} {rs A M : List RowV} {r : RowV} {k : Nat} (hr : rs[k]? = some r) (h : allX f (rs.take k) = some A) (hM : f r = some M) : allX f (rs.take (k + 1)) = some (A ++ M) := by
  obtain ⟨hk, rfl⟩ := List.getElem?_eq_some_iff.1 hr
  rw [List.take_succ_eq_append_getElem hk, allX_snoc, h]
  show (f rs[k]).map _ = _
  rw [hM]
  rfl
/-- A part that is wrong makes the whole wrong. -/
theorem finX_row {f : RowV → Option (List RowV)} {rs A : List RowV} {k : Nat} {m : RowV} (h : allX f (rs.take k) = some A) (hm : m ∈ A) (hr : rowOk m = false) : finX (allX f rs) = false := by
  cases hB : allX f rs with
  | none => rfl
  | some B =>
    obtain ⟨C, rfl⟩ := allX_part h hB
    unfold finX
    have : (A ++ C).all rowOk = false := by
      rw [List.all_eq_false]
      exact ⟨m, List.mem_append_left _ hm, by rw [hr]; simp⟩
    simp only [this, Bool.false_and]
theorem finX_long {f : RowV → Option (List RowV)} {rs A : List RowV} {k : Nat} (h : allX f (rs.take k) = some A) (hl : 300 < (addAllR [] A).length) : finX (allX f rs) = false := by
  cases hB : allX f rs with
  | none => rfl
  | some B =>
    obtain ⟨C, rfl⟩ := allX_part h hB
    unfold finX
    have h1 := addAllR_atleast C (addAllR [] A)
    rw [← addAllR_app2] at h1
    simp only [decide_eq_false (by omega : ¬ (addAllR [] (A ++ C)).length ≤ 300), Bool.and_false]
theorem row_good {r : RowV} (hr : rowOk r = true) (hs : SmP r) : GoodK 12 r := by
  have hp := gUpto_mem (by unfold rowOk at hr; simp only [Bool.and_eq_true] at hr; exact hr.2 : gUpto pairT lessP r r.length = true)
  refine ⟨asc_ok hr, fun u hu => ?_, fun u hu => ?_, rowOk_most hr, hs⟩
  · have := hp u hu
    unfold pairT isValK at this
    simp only [Bool.and_eq_true, Bool.or_eq_true, decide_eq_true_eq] at this
    refine ⟨this.1, ?_⟩
    unfold isVarK
    rw [decide_eq_false_iff_not]
    omega
  · have := hp u hu
    unfold pairT isValK at this
    simp only [Bool.and_eq_true, Bool.or_eq_true, decide_eq_true_eq] at this
    exact kind_full (by omega)
/-- The rows that one right row gives are short. -/
theorem more_small {gs ls : List Tri3} (hg : graphOk gs = true) (hl : bgpOk ls = true) (hga : SmT gs) (hgb : SmT ls) {r : RowV} (hr : rowOk r = true) (hs : SmP r) : ∀ M, moreC gs ls r = some M → M.length ≤ 301 ∧ ∀ m ∈ M, SmP m ∧ m.length ≤ 24 ∧ (∀ t ∈ m, NoZ t) := by
  intro M hM
  obtain ⟨_, h2, h3⟩ := graphOk_iff.1 hg
  have h12 := rowOk_most hr
  have hp := gUpto_mem (by unfold rowOk at hr; simp only [Bool.and_eq_true] at hr; exact hr.2 : gUpto pairT lessP r r.length = true)
  have hz : NoZs [r] := fun s hs t ht => by
    obtain rfl : s = r := by simpa using hs
    have hp := hp t ht
    unfold pairT isVarK isValK at hp
    simp only [Bool.and_eq_true, Bool.or_eq_true, decide_eq_true_eq] at hp
    exact ⟨no_zero (by omega), no_zero (by omega)⟩
  have hgood : GoodK 12 r := row_good hr hs
  unfold moreC at hM
  cases hc : contM gs ls [r] with
  | none => rw [hc] at hM; cases hM
  | some R =>
    rw [hc] at hM
    have hM' : M = orOne r R := (Option.some.inj hM).symm
    obtain ⟨k1, k2, k3⟩ := contM_rows hga h2 ls [r] 12 hgb (bgpOk_iff.1 hl).2 hz (by simp) (fun s hs => by
      obtain rfl : s = r := by simpa using hs
      exact hgood) R hc
    have hl4 := (bgpOk_iff.1 hl).1
    rw [hM']
    unfold orOne
    split
    · refine ⟨by simp, fun m hm => ?_⟩
      obtain rfl : m = r := by simpa using hm
      exact ⟨hs, by omega, hz m (by simp)⟩
    · refine ⟨by omega, fun m hm => ⟨(k3 m hm).2.2.2.2, by have := (k3 m hm).2.2.2.1; omega, k1 m hm⟩⟩
end Go.Proofs.YtmiiaebelncdhaaGreat
/- Rows that are marked, and their second look. -/
namespace Go.Proofs.YtmiiaebelncdhaaGreat
open Go.RowKit Go.WideShapes
/-- Only what lies between two blocks, and what is new, is changed. -/
def BetwR (B C : Nat) (w w' : World) : Prop := Below B w w' ∧ ∀ k, C ≤ k → k < w.heap.size → w'.heap[k]? = w.heap[k]?
theorem BetwR.refl (B C : Nat) (w : World) : BetwR B C w w := ⟨Below.refl _ _, fun _ _ _ => rfl⟩
theorem BetwR.grown {B C : Nat} {w wr w' : World} {row : Option Nat} (h : BetwR B C w wr) (hg : wr.grownBy w' row) (hB : B ≤ w.heap.size) (hr : ∀ j, row = some j → B ≤ j ∧ j < C) : BetwR B C w w' :=
  ⟨h.1.grown hg (Nat.le_trans hB h.1.size) (fun j hj => (hr j hj).1), fun k hk hl => (hg.block k (Nat.lt_of_lt_of_le hl h.1.size) (fun e => by have := hr k e.symm; omega)).trans (h.2 k hk hl)⟩
/-- The marks of rows, one behind the other. -/
def marksRs (k0 : Nat) : List RowV → List RowV
  | [] => []
  | r :: rs => marksPK k0 r.length :: marksRs (k0 + 2 * r.length) rs
theorem marksRs_len (rs : List RowV) : ∀ k0, (marksRs k0 rs).length = rs.length := by
  induction rs with
  | nil => intro k0; rfl
  | cons r rs ih => intro k0; simp [marksRs, ih]
theorem marksRs_at : ∀ (rs : List RowV) (k0 i : Nat) (r : RowV), rs[i]? = some r → (marksRs k0 rs)[i]? = some (marksPK (k0 + 2 * totR (rs.take i)) r.length)
  | [], _, i, r, h => by simp at h
  | s :: rs, k0, 0, r, h => by simp at h; subst h; simp [marksRs, totR]
  | s :: rs, k0, i + 1, r, h => by
    have := marksRs_at rs (k0 + 2 * s.length) i r (by simpa using h)
    simp only [marksRs, List.getElem?_cons_succ, List.take_succ_cons]
    rw [this]
    have e : totR (s :: rs.take i) = s.length + totR (rs.take i) := by simp [totR]
    rw [e]
    congr 2
    omega
set_option maxRecDepth 100000 in
set_option maxHeartbeats 1600000 in
theorem markRows (B C n c : Nat) (g : Nat) (rs : List RowV) (us : List Value) (w : World) (h : w.ownsRow B 36 1 (.slice (some ⟨g, 0, none⟩) n c) n us) (hi : InnR B w rs us) (hne : ∀ u ∈ us, ∀ j, u.ownBlock = some j → j ≠ g) (hC : ∀ u ∈ us, ∀ j, u.ownBlock = some j → j < C) (hBw : B ≤ w.heap.size) (hl : n + totR rs ≤ 1048576) (hrs : rs.length = n) (k0 : Nat) (hk0 : 0 < k0) (hk1 : k0 ≤ 4000000) :
    Calls Tryz.prog 42 #[.slice (some ⟨g, 0, none⟩) n c, .int .i64 k0] w fun e w' => e = .returned (.int .i64 ((k0 + 2 * totR rs : Nat) : Int)) ∧ w'.ownsRow B 36 1 (.slice (some ⟨g, 0, none⟩) n c) n us ∧ InnR B w' (marksRs k0 rs) us ∧ BetwR B C w w' := by
  have HT := Lib.hid hrs
  have HC := Lib.hid hC
  have HNE := Lib.hid hne
  have HUL : Hid (us.length = n) := Lib.hid (by have := hi.1; omega)
  have HPW := Lib.hid hi.2.2
  have HI : Hid (∀ j u r, 0 ≤ j → us[j]? = some u → rs[j]? = some r → OwnP B w u r) := Lib.hid (fun j u t _ hu ht => hi.2.1 j u t hu ht)
  have HD : Hid (∀ j u r, j < 0 → us[j]? = some u → (marksRs k0 rs)[j]? = some r → OwnP B w u r) := Lib.hid (fun j u r hj => by omega)
  have O0 := h
  clear h hi hC hrs hne
  go_enter Tryz.func42, Tryz.ntmps42
  go_wp2_with fail
  go_loopw [1, 5] (fun q i wr => ∃ k : Nat, k ≤ n ∧ i = .int .i64 k ∧ q = .int .i64 ((k0 + 2 * totR (rs.take k) : Nat) : Int) ∧ Hid (wr.ownsRow B 36 1 (.slice (some ⟨g, 0, none⟩) n c) n us) ∧ Hid (∀ j u r, k ≤ j → us[j]? = some u → rs[j]? = some r → OwnP B wr u r) ∧ Hid (∀ j u r, j < k → us[j]? = some u → (marksRs k0 rs)[j]? = some r → OwnP B wr u r) ∧ Hid (BetwR B C w wr)) (fun _ i _ => n - (intOf i).toNat)
  case atStart => exact ⟨0, Nat.zero_le _, rfl, by simp [totR], Lib.hid O0, HI, HD, Lib.hid (BetwR.refl _ _ _)⟩
  case round =>
    obtain ⟨k, hk, rfl, rfl, hown, hin, hdn, hbt⟩ := hrel
    clear O0 HI HD
    have hk6 : (0 : Int) ≤ (k : Int) := by omega
    by_cases hlt : k < n
    · have hk7 : (k : Int) < (n : Int) := by omega
      have hu : us[k]? = some (us[k]'(by have := HUL.out; omega)) := List.getElem?_eq_getElem _
      have ht : rs[k]? = some (rs[k]'(by have := HT.out; omega)) := List.getElem?_eq_getElem _
      have hcu := HC.out _ (List.mem_of_getElem? hu)
      have hnu := HNE.out _ (List.mem_of_getElem? hu)
      have hou := hin.out k _ _ (Nat.le_refl _) hu ht
      have hpw : Hid (∀ j u', j ≠ k → us[j]? = some u' → ∀ b, (us[k]'(by have := HUL.out; omega)).ownBlock = some b → u'.ownBlock ≠ some b) := Lib.hid (fun j u' hj hu' b hb => by
        have hjl := (List.getElem?_eq_some_iff.1 hu').1
        have hkl : k < us.length := by have := HUL.out; omega
        have eu := (List.getElem?_eq_some_iff.1 hu').2
        rcases Nat.lt_or_gt_of_ne hj with h1 | h1
        · intro e
          have := (List.pairwise_iff_getElem.1 HPW.out) j k hjl hkl h1 b (by rw [eu]; exact e)
          exact this hb
        · have := (List.pairwise_iff_getElem.1 HPW.out) k j hkl hjl h1 b hb
          rw [eu] at this
          exact this)
      have HS : Hid (totR (rs.take (k + 1)) = totR (rs.take k) + (rs[k]'(by have := HT.out; omega)).length) := Lib.hid (by rw [List.take_succ_eq_append_getElem (by have := HT.out; omega), totR_snoc])
      have HMK := Lib.hid (marksRs_at rs k0 k _ ht)
      have hle := totR_take rs (k + 1)
      have c0 : wr.cell? ⟨g, k, none⟩ = some (us[k]'(by have := HUL.out; omega)) := by rw [hown.out.cellAt _ (by omega), hu]
      generalize us[k]'(by have := HUL.out; omega) = u at hu hcu hnu hou hpw c0
      generalize rs[k]'(by have := HT.out; omega) = r at ht hou HS HMK
      have hrl : r.length ≤ 1048576 := by have := HS.out; omega
      obtain ⟨ua, un, uc, rfl⟩ : ∃ a n c, u = .slice a n c := by
        rcases hou.2 with ⟨rfl, _⟩ | ⟨g', cap, cur, rfl, _⟩
        · exact ⟨_, _, _, rfl⟩
        · exact ⟨_, _, _, rfl⟩
      have MK := markPairK B (.slice ua un uc) r wr hou hrl (k0 + 2 * totR (rs.take k)) (by omega) (by have := HS.out; omega)
      obtain ⟨q, hq⟩ : ∃ q : Nat, k0 + 2 * totR (rs.take k) = q := ⟨_, rfl⟩
      rw [hq] at MK HMK
      have HQ : Hid (k0 + 2 * totR (rs.take (k + 1)) = q + 2 * r.length) := Lib.hid (by have := HS.out; omega)
      rw [hq]
      have HM := Lib.hid MK
      have HU := Lib.hid hu
      have HLT := Lib.hid (World.ownsRow.lt hou)
      have HCU := Lib.hid hcu
      have HNU := Lib.hid hnu
      clear MK hou hq hle HS ht hu hcu hnu
      go_wp2_with fail
      refine HM.out.mono ?_
      rintro e w1 ⟨rfl, o1, hg⟩
      have O9 : Hid (w1.ownsRow B 36 1 (.slice (some ⟨g, 0, none⟩) n c) n us) := Lib.hid (hown.out.kept hg (.inr (by
        intro e
        exact HNU.out g (by rw [← e]; simp [Value.ownBlock]) rfl)))
      have T9 := Lib.hid (hbt.out.grown hg hBw (fun j hj => ⟨(HLT.out j hj).1, HCU.out j hj⟩))
      have keep : ∀ (j : Nat) (u' : Value) (r' : RowV), j ≠ k → us[j]? = some u' → OwnP B wr u' r' → OwnP B w1 u' r' := fun j u' r' hj hu' ho => World.ownsRow.kept ho hg (by
        rcases hb : u'.ownBlock with _ | b
        · exact .inl rfl
        · exact .inr (fun e => hpw.out j u' hj hu' b e.symm hb))
      have N9 : Hid (∀ j u r, k + 1 ≤ j → us[j]? = some u → rs[j]? = some r → OwnP B w1 u r) := Lib.hid (fun j u r hj hu ht => keep j u r (by omega) hu (hin.out j u r (by omega) hu ht))
      have D9 : Hid (∀ j u r, j < k + 1 → us[j]? = some u → (marksRs k0 rs)[j]? = some r → OwnP B w1 u r) := Lib.hid (fun j u r' hj hu ht => by
        by_cases e : j = k
        · subst e
          rw [HU.out] at hu
          cases hu
          rw [HMK.out] at ht
          cases ht
          exact o1
        · exact keep j u r' e hu (hdn.out j u r' (by omega) hu ht))
      clear hg o1 keep hown hin hdn hbt HM
      go_wp2_with fail
      go_roundw
      case rel => exact ⟨k + 1, by omega, by go_num, (by rw [HQ.out]; congr 1), O9, N9, D9, T9⟩
      case measure => simp [intOf]; omega
    · obtain rfl : k = n := by omega
      have e : rs.take k = rs := List.take_of_length_le (by rw [HT.out]; exact Nat.le_refl _)
      rw [e]
      go_wp2_with fail
      go_ret
      refine ⟨rfl, hown.out, ⟨by rw [marksRs_len, HT.out]; exact HUL.out, fun i u r hu hr => hdn.out i u r ?_ hu hr, HPW.out⟩, hbt.out⟩
      have := (List.getElem?_eq_some_iff.1 hu).1
      have := HUL.out
      omega
set_option maxRecDepth 100000 in
set_option maxHeartbeats 1600000 in
theorem heldRows (a : Option Addr) (n cap : Nat) (rs : List RowV) (w : World) (k0 : Nat) (h : IsRows w a n cap (marksRs k0 rs)) (hl : n + totR rs ≤ 1048576) (hk0 : 0 < k0) (hk1 : k0 ≤ 4000000) :
    Calls Tryz.prog 43 #[.slice a n cap, .int .i64 k0] w fun e w' => e = .returned (.int .i64 ((k0 + 2 * totR rs : Nat) : Int)) ∧ Below w.heap.size w w' := by
  have hlen : rs.length = n := by have := h.len; rwa [marksRs_len] at this
  have H := Lib.hid h
  have HT := Lib.hid hlen
  clear h hlen
  go_enter Tryz.func43, Tryz.ntmps43
  go_wp2_with fail
  go_loopw [1, 5] (fun q i wr => ∃ k : Nat, k ≤ n ∧ i = .int .i64 k ∧ q = .int .i64 ((k0 + 2 * totR (rs.take k) : Nat) : Int) ∧ Below w.heap.size w wr) (fun _ i _ => n - (intOf i).toNat)
  case atStart => exact ⟨0, Nat.zero_le _, rfl, by simp [totR], Below.refl _ _⟩
  case round =>
    obtain ⟨k, hk, rfl, rfl, hnx⟩ := hrel
    have hk6 : (0 : Int) ≤ (k : Int) := by omega
    by_cases hlt : k < n
    · have hk7 : (k : Int) < (n : Int) := by omega
      obtain ⟨b, off, rfl, hb, _, _, _, hc⟩ := (H.out.next hnx).cells (by omega)
      have ht : rs[k]? = some (rs[k]'(by have := HT.out; omega)) := List.getElem?_eq_getElem _
      obtain ⟨ua, un, uc, c0, hz⟩ := hc k _ (marksRs_at rs k0 k _ ht)
      have HS : Hid (totR (rs.take (k + 1)) = totR (rs.take k) + (rs[k]'(by have := HT.out; omega)).length) := Lib.hid (by rw [List.take_succ_eq_append_getElem (by have := HT.out; omega), totR_snoc])
      have hle := totR_take rs (k + 1)
      generalize rs[k]'(by have := HT.out; omega) = r at ht hz HS
      obtain rfl : un = r.length := by have := hz.len; rw [marksPK_len] at this; exact this.symm
      have HK := heldPairK ua r.length uc wr (k0 + 2 * totR (rs.take k)) hz (by have := HS.out; omega) (by omega) (by have := HS.out; omega)
      obtain ⟨q, hq⟩ : ∃ q : Nat, k0 + 2 * totR (rs.take k) = q := ⟨_, rfl⟩
      rw [hq] at HK
      have HQ : Hid (k0 + 2 * totR (rs.take (k + 1)) = q + 2 * r.length) := Lib.hid (by have := HS.out; omega)
      rw [hq]
      have HH := Lib.hid HK
      have hn0 : ¬ ((q + 2 * r.length : Nat) : Int) < 0 := by omega
      clear HK hq hle HS ht hz hc
      go_wp2_with fail
      refine HH.out.mono ?_
      rintro e w1 ⟨rfl, hb1⟩
      have B1 := hnx.trans (hb1.mono hnx.size)
      clear hb1 hnx HH c0
      go_wp2_with fail
      go_roundw
      case rel => exact ⟨k + 1, by omega, by go_num, (by rw [HQ.out]; congr 1), B1⟩
      case measure => simp [intOf]; omega
    · obtain rfl : k = n := by omega
      have e : rs.take k = rs := List.take_of_length_le (by rw [HT.out]; exact Nat.le_refl _)
      rw [e]
      go_wp2_with fail
      go_ret
      exact ⟨rfl, hnx⟩
end Go.Proofs.YtmiiaebelncdhaaGreat
/- The law's kit for rows: what stays, what is marked. -/
namespace Go.Proofs.YtmiiaebelncdhaaGreat
open Go.RowKit Go.WideShapes
theorem ownsRow_same {w w' : World} {B : Nat} {e : TypeId} {size n : Nat} {v : Value} {xs : List Value} (h : w.ownsRow B e size v n xs) (hs : ∀ j, v.ownBlock = some j → w'.heap[j]? = w.heap[j]?) : w'.ownsRow B e size v n xs := by
  refine ⟨h.1, ?_⟩
  rcases h.2 with hn | ⟨g, cap, cur, rfl, hb, hgg, rest⟩
  · exact .inl hn
  · exact .inr ⟨g, cap, cur, rfl, hb, by rw [hs g rfl]; exact hgg, rest⟩
/-- Rows of the call's own whose blocks lie from B on and below C. -/
def OwnRsC (B C : Nat) (w : World) (v : Value) (rs : List RowV) : Prop := ∃ us, w.ownsRow B 36 1 v rs.length us ∧ InnR B w rs us ∧ (∀ u ∈ us, ∀ j, u.ownBlock = some j → v.ownBlock ≠ some j) ∧ (∀ j, v.ownBlock = some j → j < C) ∧ ∀ u ∈ us, ∀ j, u.ownBlock = some j → j < C
theorem OwnRsC.of {B : Nat} {w : World} {v : Value} {rs : List RowV} (h : OwnRs B w v rs) : OwnRsC B w.heap.size w v rs := by
  obtain ⟨us, h1, h2, h3⟩ := h
  exact ⟨us, h1, h2, h3, fun j hj => (World.ownsRow.lt h1 j hj).2, fun u hu j hj => (h2.lt u hu j hj).2⟩
theorem OwnRsC.own {B C : Nat} {w : World} {v : Value} {rs : List RowV} (h : OwnRsC B C w v rs) : OwnRs B w v rs := by
  obtain ⟨us, h1, h2, h3, _⟩ := h
  exact ⟨us, h1, h2, h3⟩
theorem OwnRsC.same {B C : Nat} {w w' : World} {v : Value} {rs : List RowV} (h : OwnRsC B C w v rs) (hs : ∀ j, B ≤ j → j < w.heap.size → w'.heap[j]? = w.heap[j]?) : OwnRsC B C w' v rs := by
  obtain ⟨us, h1, h2, h3, h4, h5⟩ := h
  refine ⟨us, ownsRow_same h1 (fun j hj => hs j (World.ownsRow.lt h1 j hj).1 (World.ownsRow.lt h1 j hj).2), ⟨h2.1, fun i u r hu hr => ?_, h2.2.2⟩, h3, h4, h5⟩
  have o := h2.2.1 i u r hu hr
  exact ownsRow_same o (fun j hj => hs j (World.ownsRow.lt o j hj).1 (World.ownsRow.lt o j hj).2)
theorem OwnRsC.next {B C : Nat} {w w' : World} {v : Value} {rs : List RowV} (h : OwnRsC B C w v rs) (hb : Below w.heap.size w w') : OwnRsC B C w' v rs := h.same fun j _ hj => hb.block j hj
theorem OwnRsC.moved {A B C D : Nat} {w w' : World} {v : Value} {rs : List RowV} (h : OwnRsC D C w v rs) (hb : BetwR A B w w') (hc : B ≤ D) : OwnRsC D C w' v rs := h.same fun j h1 h2 => hb.2 j (by omega) h2
theorem OwnRsC.grown {C D : Nat} {row : Option Nat} {w w' : World} {v : Value} {rs : List RowV} (h : OwnRsC D C w v rs) (hg : w.grownBy w' row) (hr : ∀ j, row = some j → j < D) : OwnRsC D C w' v rs := h.same fun j h1 h2 => hg.block j h2 (fun e => by have := hr j e.symm; omega)
theorem OwnS.moved {A B D : Nat} {w w' : World} {v : Value} {ts : List ByteArray} (h : OwnS D w v ts) (hb : BetwR A B w w') (hc : B ≤ D) : OwnS D w' v ts := ownsRow_same h fun j hj => hb.2 j (by have := (World.ownsRow.lt h j hj).1; omega) (World.ownsRow.lt h j hj).2
theorem OwnRsC.isN {B C : Nat} {w : World} {a : Option Addr} {n c : Nat} {rs : List RowV} (h : OwnRsC B C w (.slice a n c) rs) (hm : ∀ r ∈ rs, ∀ t ∈ r, t.1.size ≤ maxLen ∧ t.2.size ≤ maxLen) : IsRows w a n c rs := by
  obtain ⟨a', c', e, i⟩ := h.own.is hm
  simp only [Value.slice.injEq] at e
  obtain ⟨rfl, rfl, rfl⟩ := e
  exact i
set_option maxRecDepth 100000 in
theorem markRowsNil (w : World) (k0 : Nat) :
    Calls Tryz.prog 42 #[.slice none 0 0, .int .i64 k0] w fun e w' => e = .returned (.int .i64 k0) ∧ w' = w := by
  go_enter Tryz.func42, Tryz.ntmps42
  go_wp2_with fail
  go_loop [1, 5] (fun q i => q = .int .i64 k0 ∧ i = .int .i64 0) (fun _ i => 0)
  case atStart => exact ⟨rfl, rfl⟩
  case round =>
    obtain ⟨rfl, rfl⟩ := hrel
    go_wp2_with fail
    go_ret
    exact ⟨rfl, rfl⟩
/-- Marks in rows of the call's own, whatever these are. -/
theorem markRowsAny (B C : Nat) (v : Value) (rs : List RowV) (w : World) (h : OwnRsC B C w v rs) (hBw : B ≤ w.heap.size) (hl : rs.length + totR rs ≤ 1048576) (k0 : Nat) (hk0 : 0 < k0) (hk1 : k0 ≤ 4000000) :
    Calls Tryz.prog 42 #[v, .int .i64 k0] w fun e w' => e = .returned (.int .i64 ((k0 + 2 * totR rs : Nat) : Int)) ∧ OwnRsC B C w' v (marksRs k0 rs) ∧ BetwR B C w w' := by
  obtain ⟨us, h1, h2, h3, h4, h5⟩ := h
  rcases h1.2 with ⟨rfl, hn⟩ | ⟨g, cap, cur, rfl, _⟩
  · obtain rfl : rs = [] := List.length_eq_zero_iff.1 hn
    obtain rfl : us = [] := by have := h2.1; simpa using this
    refine (markRowsNil w k0).mono ?_
    rintro e w' ⟨rfl, rfl⟩
    exact ⟨by simp [totR], ⟨[], h1, h2, h3, h4, h5⟩, BetwR.refl _ _ _⟩
  · refine (markRows B C rs.length cap g rs us w h1 h2 (fun u hu j hj e => h3 u hu j hj (by rw [e]; rfl)) h5 hBw hl rfl k0 hk0 hk1).mono ?_
    rintro e w' ⟨rfl, q1, q2, q3⟩
    exact ⟨rfl, ⟨us, by rw [marksRs_len]; exact q1, q2, h3, h4, h5⟩, q3⟩
theorem marksRs_small : ∀ (rs : List RowV) (k0 : Nat), totR rs ≤ 1048576 → k0 + 2 * totR rs ≤ 40000000 → ∀ r ∈ marksRs k0 rs, ∀ t ∈ r, t.1.size ≤ maxLen ∧ t.2.size ≤ maxLen
  | [], _, _, _, r, hr => by simp [marksRs] at hr
  | s :: rs, k0, h1, h2, r, hr => by
    have e : totR (s :: rs) = s.length + totR rs := by simp [totR]
    rw [e] at h1 h2
    simp only [marksRs, List.mem_cons] at hr
    rcases hr with rfl | hr
    · exact marksPK_small k0 s.length (by omega) (by omega)
    · exact marksRs_small rs _ (by omega) (by omega) r hr
end Go.Proofs.YtmiiaebelncdhaaGreat
