/- Rows that are marked, and their second look.; The law's kit for rows: what stays, what is marked.; Rows that are extended: the program's own. -/
import Derived.Test.YtiajdnhmjdfeeaaGreatK18
import Derived.Test.YtiajdnhmjdfeeaaGreatK11
import Derived.Test.YtiajdnhmjdfeeaaGreatK38
import Derived.Test.YtiajdnhmjdfeeaaGreatK36
namespace Go.Proofs.YtiajdnhmjdfeeaaGreat
open Go.RowKit Go.WideShapes
/-- Only what lies between two blocks, and what is new, is changed. -/
def BetwR (B C : Nat) (w w' : World) : Prop := Below B w w' ∧ ∀ k, C ≤ k → k < w.heap.size → w'.heap[k]? = w.heap[k]?
theorem BetwR.refl (B C : Nat) (w : World) : BetwR B C w w := ⟨Below.refl _ _, fun _ _ _ => rfl⟩
theorem BetwR.grown {B C : Nat} {w wr w' : World} {row : Option Nat} (h : BetwR B C w wr) (hg : wr.grownBy w' row) (hB : B ≤ w.heap.size) (hr : ∀ j, row = some j → B ≤ j ∧ j < C) : BetwR B C w w' :=
  ⟨h.1.grown hg (Nat.le_trans hB h.1.size) (fun j hj => (hr j hj).1), fun k hk hl => (hg.block k (Nat.lt_of_lt_of_le hl h.1.size) (fun e => by have := hr k e.symm; omega)).trans (h.2 k hk hl)⟩
/-- The marks of rows, one behind the other. -/
def marksRs (k0 : Nat) : List RowV → List RowV
  | [] => []
  | r :: rs => marksPK k0 r.length :: marksRs (k0 + 2 * r.length) rs
end Go.Proofs.YtiajdnhmjdfeeaaGreat
namespace Go.Proofs.YtiajdnhmjdfeeaaGreat
open Go.RowKit Go.WideShapes
theorem ownsRow_same {w w' : World} {B : Nat} {e : TypeId} {size n : Nat} {v : Value} {xs : List Value} (h : w.ownsRow B e size v n xs) (hs : ∀ j, v.ownBlock = some j → w'.heap[j]? = w.heap[j]?) : w'.ownsRow B e size v n xs := by
  refine ⟨h.1, ?_⟩
  rcases h.2 with hn | ⟨g, cap, cur, rfl, hb, hgg, rest⟩
  · exact .inl hn
  · exact .inr ⟨g, cap, cur, rfl, hb, by rw [hs g rfl]; exact hgg, rest⟩
/-- Rows of the call's own whose blocks lie from B on and below C. -/
def OwnRsC (B C : Nat) (w : World) (v : Value) (rs : List RowV) : Prop := ∃ us, w.ownsRow B 50 1 v rs.length us ∧ InnR B w rs us ∧ (∀ u ∈ us, ∀ j, u.ownBlock = some j → v.ownBlock ≠ some j) ∧ (∀ j, v.ownBlock = some j → j < C) ∧ ∀ u ∈ us, ∀ j, u.ownBlock = some j → j < C
theorem OwnRsC.of {B : Nat} {w : World} {v : Value} {rs : List RowV} (h : OwnRs B w v rs) : OwnRsC B w.heap.size w v rs := by
  obtain ⟨us, h1, h2, h3⟩ := h
  exact ⟨us, h1, h2, h3, fun j hj => (World.ownsRow.lt h1 j hj).2, fun u hu j hj => (h2.lt u hu j hj).2⟩
theorem OwnRsC.own {B C : Nat} {w : World} {v : Value} {rs : List RowV} (h : OwnRsC B C w v rs) : OwnRs B w v rs := by
  obtain ⟨us, h1, h2, h3, _⟩ := h
  exact ⟨us, h1, h2, h3⟩
theorem OwnRsC.same {B C : Nat} {w w' : World} {v : Value} {rs : List RowV} (h : OwnRsC B C w v rs) (hs : ∀ j, B ≤ j → j < w.heap.size → w'.heap[j]? = w.heap[j]?) : OwnRsC B C w' v rs := by
  obtain ⟨us, h1, h2, h3, h4, h5⟩ := h
  refine ⟨us, ownsRow_same h1 (fun j hj => hs j (World.ownsRow.lt h1 j hj).1 (World.ownsRow.lt h1 j hj).2), ⟨h2.1, fun i u r hu hr => ?_, h2.2.2⟩, h3, h4, h5⟩
  have o := h2.2.1 i u r hu hr
  exact ownsRow_same o (fun j hj => hs j (World.ownsRow.lt o j hj).1 (World.ownsRow.lt o j hj).2)
theorem OwnRsC.next {B C : Nat} {w w' : World} {v : Value} {rs : List RowV} (h : OwnRsC B C w v rs) (hb : Below w.heap.size w w') : OwnRsC B C w' v rs := h.same fun j _ hj => hb.block j hj
theorem OwnRsC.grown {C D : Nat} {row : Option Nat} {w w' : World} {v : Value} {rs : List RowV} (h : OwnRsC D C w v rs) (hg : w.grownBy w' row) (hr : ∀ j, row = some j → j < D) : OwnRsC D C w' v rs := h.same fun j h1 h2 => hg.block j h2 (fun e => by have := hr j e.symm; omega)
theorem OwnRsC.isN {B C : Nat} {w : World} {a : Option Addr} {n c : Nat} {rs : List RowV} (h : OwnRsC B C w (.slice a n c) rs) (hm : ∀ r ∈ rs, ∀ t ∈ r, t.1.size ≤ maxLen ∧ t.2.size ≤ maxLen) : IsRows w a n c rs := by
  obtain ⟨a', c', e, i⟩ := h.own.is hm
  simp only [Value.slice.injEq] at e
  obtain ⟨rfl, rfl, rfl⟩ := e
  exact i
end Go.Proofs.YtiajdnhmjdfeeaaGreat
namespace Go.Proofs.YtiajdnhmjdfeeaaGreat
open Go.RowKit Go.WideShapes Go.Maps Go.Sort Go.Shelf
theorem putV_app2 : ∀ (A : List RowV) (us : List Value) (kvs : List (Txt × Value)) (M : List RowV) (us1 : List Value), us.length = A.length → putV kvs (A ++ M) (us ++ us1) = putV (putV kvs A us) M us1
  | [], [], _, _, _, _ => rfl
  | [], _ :: _, _, _, _, h => by simp at h
  | _ :: _, [], _, _, _, h => by simp at h
  | r :: A, u :: us, kvs, M, us1, h => putV_app2 A us (addV kvs (rowTextL r) u) M us1 (by simpa using h)
theorem all_same {A B : List RowV} (h : ∀ x, x ∈ A ↔ x ∈ B) (f : RowV → Bool) : A.all f = B.all f := by
  rw [Bool.eq_iff_iff, List.all_eq_true, List.all_eq_true]
  exact ⟨fun k x hx => k x ((h x).2 hx), fun k x hx => k x ((h x).1 hx)⟩
/-- What all right rows give, either way. -/
theorem both_ext {gs ls : List Tri3} {rs : List RowV} (hg : graphOk gs = true) (hl : bgpOk ls = true) (hga : SmT gs) (hgb : SmT ls) (hr : ∀ r ∈ rs, rowOk r = true) (hs : SmR rs) :
    (∀ C, allX (moreC gs ls) rs = some C → (∀ m ∈ C, SmP m ∧ m.length ≤ 24 ∧ ∀ t ∈ m, NoZ t) ∧ finX (extA gs rs ls) = rowsOkL (addAllR [] C) ∧ addAllR [] ((extA gs rs ls).getD []) = addAllR [] C ∧ C.length ≤ rs.length * 301) ∧ (∀ r ∈ rs, moreC gs ls r = none → finX (extA gs rs ls) = false) := by
  refine ⟨fun C hC => ?_, fun r hr' hn => ?_⟩
  · have hmem := allX_mem hC
    have hsm : ∀ m ∈ C, SmP m ∧ m.length ≤ 24 ∧ ∀ t ∈ m, NoZ t := fun m hm => by
      obtain ⟨r, h1, M, h2, h3⟩ := (hmem m).1 hm
      exact (more_small hg hl hga hgb (hr r h1) (hs r h1) M h2).2 m h3
    have hsome : ∀ r ∈ rs, (moreS gs ls r).isSome = true := fun r h1 => by
      rw [(more_same hg hl (hr r h1)).1]
      cases h2 : moreC gs ls r with
      | none => rw [allX_none h2 h1] at hC; cases hC
      | some M => rfl
    have h9 := allX_some hsome
    unfold extA
    cases hS : allX (moreS gs ls) rs with
    | none => rw [hS] at h9; cases h9
    | some S =>
      have hm2 := allX_mem hS
      have hsame : ∀ x, x ∈ S ↔ x ∈ C := fun x => by
        rw [hm2, hmem]
        constructor
        · rintro ⟨r, h1, M, h2, h3⟩
          cases h4 : moreC gs ls r with
          | none => rw [allX_none h4 h1] at hC; cases hC
          | some N => exact ⟨r, h1, N, h4, ((more_same hg hl (hr r h1)).2 M N h2 h4 x).1 h3⟩
        · rintro ⟨r, h1, N, h2, h3⟩
          cases h4 : moreS gs ls r with
          | none => rw [allX_none h4 h1] at hS; cases hS
          | some M => exact ⟨r, h1, M, h4, ((more_same hg hl (hr r h1)).2 M N h4 h2 x).2 h3⟩
      have hzC : NoZs C := fun m hm => (hsm m hm).2.2
      have hzS : NoZs S := fun m hm => hzC m ((hsame m).1 hm)
      have he : addAllR [] S = addAllR [] C := addAllR_same hzS hzC hsame
      have hb : ∀ x, x ∈ addAllR [] C ↔ x ∈ C := addAllR_both hzC
      refine ⟨hsm, ?_, he, allX_len (fun r M h => ?_) hC⟩
      · unfold finX rowsOkL
        simp only [he]
        rw [all_same hsame, all_same hb, Bool.and_comm]
      · unfold moreC at h
        cases hc : contM gs ls [r] with
        | none => rw [hc] at h; cases h
        | some R =>
          rw [hc] at h
          have hM : M = orOne r R := (Option.some.inj h).symm
          have hR : R.length ≤ 300 := by
            have key : ∀ (l : List Tri3) (rows : List RowV), rows.length ≤ 300 → contM gs l rows = some R → R.length ≤ 300 := by
              intro l
              induction l with
              | nil => intro rows hr e; unfold contM at e; cases e; exact hr
              | cons p l ih =>
                intro rows hr e
                unfold contM at e
                by_cases hc : (joinM gs p rows).length ≤ 300
                · rw [if_pos hc] at e; exact ih _ hc e
                · rw [if_neg hc] at e; cases e
            exact key ls _ (by simp) hc
          rw [hM]
          unfold orOne
          split
          · simp
          · omega
  · have h2 := (more_same hg hl (hr r hr')).1
    rw [hn] at h2
    cases h3 : moreS gs ls r with
    | some M => rw [h3] at h2; cases h2
    | none =>
      unfold extA
      rw [allX_none h3 hr']
      rfl
theorem GoodK.r {m : Nat} {r : RowV} (h : GoodK m r) (hm : m ≤ 1000) : GoodR r := ⟨h.1, h.2.1, h.2.2.1, by have := h.2.2.2.1; omega, h.2.2.2.2⟩
set_option maxRecDepth 100000 in
set_option maxHeartbeats 3200000 in
theorem implExtended (a b c : Option Addr) (la ca lr cr lb cb : Nat) (gs : List Tri3) (rs : List RowV) (ls : List Tri3) (w : World) (ha : IsTris w a la ca gs) (hr : IsRows w b lr cr rs) (hb : IsTris w c lb cb ls) (hga : SmT gs) (hsr : SmR rs) (hgb : SmT ls) :
    Calls Tryz.prog 54 #[.slice a la ca, .slice b lr cr, .slice c lb cb] w fun e w' => ∃ v, e = .returned (.tuple #[v, .bool (extOk gs rs ls)]) ∧ OwnRs w.heap.size w' v (extR gs rs ls) ∧ Below w.heap.size w w' := by
  have A1 := implGraphOk a la ca gs w ha hga.sm
  cases hg : graphOk gs
  · have HS : Hid (extOk gs rs ls = false) := Lib.hid (by unfold extOk; rw [hg]; rfl)
    rw [hg] at A1
    have C1 := Lib.hid A1
    clear A1 hg ha hb hga hgb hr hsr
    go_enter Tryz.func54, Tryz.ntmps54
    go_wp2_with fail
    refine C1.out.mono ?_
    rintro e w1 ⟨rfl, hb1⟩
    go_wp2_with fail
    go_ret2
    exact ⟨_, by rw [HS.out]; rfl, by rw [extR_no HS.out]; exact OwnRs.none _ _, hb1⟩
  rw [hg] at A1
  have C1 := Lib.hid A1
  have A2 := fun W (h : Below w.heap.size w W) => implRowsOk b lr cr rs W (hr.next h) hsr
  cases hq : rowsOkL rs
  · have HS : Hid (extOk gs rs ls = false) := Lib.hid (by unfold extOk; rw [hg, hq]; rfl)
    rw [hq] at A2
    have C2 := Lib.hid A2
    clear A1 A2 hg hq ha hb hga hgb hr hsr
    go_enter Tryz.func54, Tryz.ntmps54
    go_wp2_with fail
    refine C1.out.mono ?_
    rintro e w1 ⟨rfl, hb1⟩
    go_wp2_with fail
    refine (C2.out _ (by first | exact hb1 | exact hb1.drew)).mono ?_
    rintro e w2 ⟨rfl, hb2⟩
    go_wp2_with fail
    go_ret2
    exact ⟨_, by rw [HS.out]; rfl, by rw [extR_no HS.out]; exact OwnRs.none _ _, hb1.trans (hb2.mono hb1.size)⟩
  rw [hq] at A2
  have C2 := Lib.hid A2
  have A3 := fun W (h : Below w.heap.size w W) => implBgpOk c lb cb ls W (hb.next h) hgb.sm
  cases hl : bgpOk ls
  · have HS : Hid (extOk gs rs ls = false) := Lib.hid (by unfold extOk; rw [hg, hq, hl]; rfl)
    rw [hl] at A3
    have C3 := Lib.hid A3
    clear A1 A2 A3 hg hq hl ha hb hga hgb hr hsr
    go_enter Tryz.func54, Tryz.ntmps54
    go_wp2_with fail
    refine C1.out.mono ?_
    rintro e w1 ⟨rfl, hb1⟩
    go_wp2_with fail
    refine (C2.out _ (by first | exact hb1 | exact hb1.drew)).mono ?_
    rintro e w2 ⟨rfl, hb2⟩
    have B2 := hb1.trans (hb2.mono hb1.size)
    clear hb1 hb2
    go_wp2_with fail
    refine (C3.out _ (by first | exact B2 | exact B2.drew)).mono ?_
    rintro e w3 ⟨rfl, hb3⟩
    go_wp2_with fail
    go_ret2
    exact ⟨_, by rw [HS.out]; rfl, by rw [extR_no HS.out]; exact OwnRs.none _ _, B2.trans (hb3.mono B2.size)⟩
  rw [hl] at A3
  have C3 := Lib.hid A3
  have HOK : Hid (extOk gs rs ls = finX (extA gs rs ls)) := Lib.hid (by unfold extOk; rw [hg, hq, hl]; rfl)
  have hrok : ∀ r ∈ rs, rowOk r = true := by
    unfold rowsOkL at hq
    simp only [Bool.and_eq_true, List.all_eq_true] at hq
    exact hq.2
  have HROK := Lib.hid hrok
  have HBE := Lib.hid (both_ext hg hl hga hgb hrok hsr)
  obtain ⟨hla, hgt, _⟩ := graphOk_iff.1 hg
  obtain ⟨hlb, hpt⟩ := bgpOk_iff.1 hl
  rw [ha.len] at hla
  rw [hb.len] at hlb
  have hlr : lr ≤ 300 := by have := rowsOk_most hq; rw [hr.len] at this; exact this
  have HRL := Lib.hid hr.len
  have HR := Lib.hid hr
  have HSR := Lib.hid hsr
  have HMS := Lib.hid (fun r (h : r ∈ rs) => more_small hg hl hga hgb (hrok r h) (hsr r h))
  have CC := Lib.hid (fun (s : Option Addr) (sn sc : Nat) (r : RowV) (hm : r ∈ rs) W (h : Below w.heap.size w W) (hs : IsPres W s sn sc r) (hsn : sn ≤ 12) => (callsIn_wide (n := 7)).1 (implContinued 7 (Nat.le_refl _) a c s la ca lb cb sn sc gs ls r W (ha.next h) (hb.next h) hs hla hlb hsn hga hgb ((row_good (hrok r hm) (hsr r hm)).r (by omega)) (fun t ht => okT_plain (hgt t ht)) (fun p hp => patT_full (hpt p hp))))
  have hmm := @run_makeMap Tryz.prog
  clear A1 A2 A3 hg hq hl ha hb hga hgb hr hsr hrok hgt hpt
  go_enter Tryz.func54, Tryz.ntmps54
  go_wp2_with fail
  refine C1.out.mono ?_
  rintro e w1 ⟨rfl, hb1⟩
  go_wp2_with fail
  refine (C2.out _ (by first | exact hb1 | exact hb1.drew)).mono ?_
  rintro e w2 ⟨rfl, hb2⟩
  have B2 := hb1.trans (hb2.mono hb1.size)
  clear hb1 hb2 C1 C2
  go_wp2_with fail
  refine (C3.out _ (by first | exact B2 | exact B2.drew)).mono ?_
  rintro e w3 ⟨rfl, hb3⟩
  have B3 : Below w.heap.size w w3 := by first | exact B2.trans (hb3.mono B2.size) | exact B2.drew.trans (hb3.mono B2.size)
  have OM0 := Lib.hid (OwnMapV.made w3)
  have B4 := B3.alloc B3.size (.map #[] 0)
  have HB3 := Lib.hid B3.size
  clear hb3 B2 B3 C3
  go_wp2_with fail
  clear hmm
  go_loopw [30] (fun i wr => ∃ k : Nat, k ≤ lr ∧ i = .int .i64 k ∧ (∃ (A : List RowV) (us : List Value), Hid (allX (moreC gs ls) (rs.take k) = some A ∧ A.length ≤ k * 301 ∧ us.length = A.length ∧ (∀ (i : Nat) (u : Value) (r : RowV), us[i]? = some u → A[i]? = some r → RowIn wr u r) ∧ OwnMapV wr w3.heap.size A.length (putV [] A us))) ∧ Below w.heap.size w wr) (fun i _ => lr - (intOf i).toNat)
  case atStart => exact ⟨0, Nat.zero_le _, rfl, ⟨[], [], Lib.hid ⟨rfl, by simp, rfl, by simp, by simpa [putV] using OM0.out⟩⟩, B4⟩
  case round =>
    obtain ⟨k, hk, rfl, ⟨A, us, HU⟩, hnx⟩ := hrel
    clear OM0 B4
    by_cases hlt : k < lr
    · obtain ⟨bb, off, rfl, hbb, _, _, hts, hcs⟩ := HR.out.cells (by omega)
      have ht : rs[k]? = some (rs[k]'(by have := HRL.out; omega)) := List.getElem?_eq_getElem (by have := HRL.out; omega)
      obtain ⟨a1, n1, c1, c0, hz⟩ := hcs k _ ht
      rw [← hnx.cell (p := ⟨bb, _, none⟩) hbb] at c0
      have hm := List.mem_of_getElem? ht
      generalize rs[k]'(by have := HRL.out; omega) = r at ht hz hm
      have hn1 : n1 ≤ 12 := by have := rowOk_most (HROK.out r hm); have := hz.len; omega
      have HZ := Lib.hid hz
      have HT := Lib.hid ht
      have HM := Lib.hid hm
      have hk6 : (0 : Int) ≤ (k : Int) := by omega
      have hk7 : (k : Int) < (lr : Int) := by omega
      have CK := Lib.hid (fun W (h : Below w.heap.size w W) => CC.out a1 n1 c1 r hm W h (hz.next h) hn1)
      clear hts hcs ht hz hm
      go_wp2_with fail
      refine (CK.out _ (by first | exact hnx | exact hnx.drew)).mono ?_
      rintro e w5 ⟨x, n, c, rfl, hr5, hb5⟩
      have hb5' : Below wr.heap.size wr w5 := by first | exact hb5 | exact (Below.drew (Below.refl _ _)).trans hb5
      have B5 := hnx.trans (hb5'.mono hnx.size)
      have HE5 := Lib.hid hb5'
      clear hb5 hb5' CK c0 hnx
      cases hc : contM gs ls [r] with
      | none =>
        have HF : Hid (extOk gs rs ls = false) := Lib.hid (by
          rw [HOK.out]
          exact HBE.out.2 r HM.out (by unfold moreC; rw [hc]; rfl))
        clear hr5 HU HE5 hc
        go_wp2_with fail
        go_ret2
        exact ⟨_, by rw [HF.out]; rfl, by rw [extR_no HF.out]; exact OwnRs.none _ _, B5⟩
      | some R =>
        rw [hc] at hr5
        simp only [Option.getD_some] at hr5
        have HMM : Hid (moreC gs ls r = some (orOne r R)) := Lib.hid (by unfold moreC; rw [hc]; rfl)
        have HRN := Lib.hid hr5.len
        by_cases hn0 : n = 0
        case pos =>
          subst hn0
          have HOR : Hid (orOne r R = [r]) := Lib.hid (by unfold orOne; rw [if_pos HRN.out])
          have I6 := Lib.hid (one_rows (HZ.out.next B5))
          have b6 := (Below.refl w5.heap.size w5).alloc (Nat.le_refl _) (.cells #[.slice a1 n1 c1] 50)
          have B6 := B5.alloc B5.size (.cells #[.slice a1 n1 c1] 50)
          have E6 := Lib.hid (HE5.out.trans (b6.mono HE5.out.size))
          clear hr5 hc b6 B5 HE5
          go_wp2_with fail
          generalize hw6 : w5.alloc (.cells #[.slice a1 n1 c1] 50) = w6 at I6 B6 E6 ⊢
          have HI : Hid (IsRows w6 (some ⟨w5.heap.size, 0, none⟩) 1 1 (orOne r R)) := Lib.hid (by rw [HOR.out]; exact I6.out)
          clear hw6 I6 HOR HRN
          generalize hx6 : (some (⟨w5.heap.size, 0, none⟩ : Addr)) = x6 at HI ⊢
          clear hx6
          have HLM := Lib.hid (HMS.out r HM.out _ HMM.out)
          have HML : Hid ((orOne r R).length = 1) := Lib.hid HI.out.len
          have hnM : 1 ≤ 301 := by have h1 := HLM.out.1; have h2 := HML.out; omega
          have hAl : A.length ≤ 90300 := by have h1 := HU.out.2.1; have : k * 301 ≤ 300 * 301 := Nat.mul_le_mul_right _ (by omega); omega
          have HLONG : Hid (LongR (orOne r R)) := Lib.hid (fun m hm => by
            have h1 := HLM.out.2 m hm
            have h2 := rowText_len h1.1
            have h3 := h1.2.1
            omega)
          have E2 := Lib.hid (fun W (h : Below w6.heap.size w6 W) => implPut w3.heap.size A.length (putV [] A us) x6 1 1 (orOne r R) W ((HU.out.2.2.2.2.next E6.out).next h) (HI.out.next h) HLONG.out (by unfold maxLen; omega))
          go_wp2_with fail
          refine (E2.out _ (by first | exact Below.refl _ _ | exact Below.drew (Below.refl _ _))).mono ?_
          rintro e w7 ⟨rfl, ⟨us1, hl1, hr1, hM1⟩, hg7⟩
          have B7 : Below w.heap.size w w7 := by first | exact B6.grown hg7 B6.size (fun q e => by cases e; exact HB3.out) | exact B6.drew.grown hg7 B6.size (fun q e => by cases e; exact HB3.out)
          have HN : Hid (allX (moreC gs ls) (rs.take (k + 1)) = some (A ++ orOne r R) ∧ (A ++ orOne r R).length ≤ (k + 1) * 301 ∧ (us ++ us1).length = (A ++ orOne r R).length ∧ (∀ (i : Nat) (u : Value) (s : RowV), (us ++ us1)[i]? = some u → (A ++ orOne r R)[i]? = some s → RowIn w7 u s) ∧ OwnMapV w7 w3.heap.size (A ++ orOne r R).length (putV [] (A ++ orOne r R) (us ++ us1))) := Lib.hid (by
            obtain ⟨u1, u2, u3, u4, u5⟩ := HU.out
            have hml := HML.out
            refine ⟨allX_step HT.out u1 HMM.out, by rw [List.length_append, Nat.add_mul]; omega, by rw [List.length_append, List.length_append, u3, hl1], fun i u s hu hs => ?_, ?_⟩
            · rcases Nat.lt_or_ge i A.length with g | g
              · rw [List.getElem?_append_left (by omega)] at hu
                rw [List.getElem?_append_left g] at hs
                exact ((u4 i u s hu hs).next E6.out).past hg7 (u5.next E6.out).isMap
              · rw [List.getElem?_append_right (by omega), u3] at hu
                rw [List.getElem?_append_right g] at hs
                exact hr1 _ u s hu hs
            · rw [putV_app2 _ _ _ _ _ u3, List.length_append, hml]
              exact hM1)
          clear hl1 hr1 hM1 hg7 E2 B6
          go_wp2_with fail
          go_roundw
          case rel => exact ⟨k + 1, by omega, by go_num, ⟨_, _, HN⟩, B7⟩
          case measure => simp [intOf]; omega
        case neg =>
          have HOR : Hid (orOne r R = R) := Lib.hid (by unfold orOne; rw [if_neg (by rw [HRN.out]; exact hn0)])
          have HI : Hid (IsRows w5 x n c (orOne r R)) := Lib.hid (by rw [HOR.out]; exact hr5)
          have hn0' : ((n : Int) == 0) = false := by rw [beq_eq_false_iff_ne]; omega
          have B6 := B5
          have E6 := HE5
          clear hr5 hc HOR HRN B5 HE5
          have HLM := Lib.hid (HMS.out r HM.out _ HMM.out)
          have HML : Hid ((orOne r R).length = n) := Lib.hid HI.out.len
          have hnM : n ≤ 301 := by have h1 := HLM.out.1; have h2 := HML.out; omega
          have hAl : A.length ≤ 90300 := by have h1 := HU.out.2.1; have : k * 301 ≤ 300 * 301 := Nat.mul_le_mul_right _ (by omega); omega
          have HLONG : Hid (LongR (orOne r R)) := Lib.hid (fun m hm => by
            have h1 := HLM.out.2 m hm
            have h2 := rowText_len h1.1
            have h3 := h1.2.1
            omega)
          have E2 := Lib.hid (fun W (h : Below w5.heap.size w5 W) => implPut w3.heap.size A.length (putV [] A us) x n c (orOne r R) W ((HU.out.2.2.2.2.next E6.out).next h) (HI.out.next h) HLONG.out (by unfold maxLen; omega))
          go_wp2_with fail
          refine (E2.out _ (by first | exact Below.refl _ _ | exact Below.drew (Below.refl _ _))).mono ?_
          rintro e w7 ⟨rfl, ⟨us1, hl1, hr1, hM1⟩, hg7⟩
          have B7 : Below w.heap.size w w7 := by first | exact B6.grown hg7 B6.size (fun q e => by cases e; exact HB3.out) | exact B6.drew.grown hg7 B6.size (fun q e => by cases e; exact HB3.out)
          have HN : Hid (allX (moreC gs ls) (rs.take (k + 1)) = some (A ++ orOne r R) ∧ (A ++ orOne r R).length ≤ (k + 1) * 301 ∧ (us ++ us1).length = (A ++ orOne r R).length ∧ (∀ (i : Nat) (u : Value) (s : RowV), (us ++ us1)[i]? = some u → (A ++ orOne r R)[i]? = some s → RowIn w7 u s) ∧ OwnMapV w7 w3.heap.size (A ++ orOne r R).length (putV [] (A ++ orOne r R) (us ++ us1))) := Lib.hid (by
            obtain ⟨u1, u2, u3, u4, u5⟩ := HU.out
            have hml := HML.out
            refine ⟨allX_step HT.out u1 HMM.out, by rw [List.length_append, Nat.add_mul]; omega, by rw [List.length_append, List.length_append, u3, hl1], fun i u s hu hs => ?_, ?_⟩
            · rcases Nat.lt_or_ge i A.length with g | g
              · rw [List.getElem?_append_left (by omega)] at hu
                rw [List.getElem?_append_left g] at hs
                exact ((u4 i u s hu hs).next E6.out).past hg7 (u5.next E6.out).isMap
              · rw [List.getElem?_append_right (by omega), u3] at hu
                rw [List.getElem?_append_right g] at hs
                exact hr1 _ u s hu hs
            · rw [putV_app2 _ _ _ _ _ u3, List.length_append, hml]
              exact hM1)
          clear hl1 hr1 hM1 hg7 E2 B6
          go_wp2_with fail
          go_roundw
          case rel => exact ⟨k + 1, by omega, by go_num, ⟨_, _, HN⟩, B7⟩
          case measure => simp [intOf]; omega
    · have hkl : k = lr := by omega
      have HA9 : Hid (allX (moreC gs ls) rs = some A) := Lib.hid (by
        have h1 := HU.out.1
        rwa [List.take_of_length_le (by rw [HRL.out]; omega)] at h1)
      have HB9 := Lib.hid (HBE.out.1 A HA9.out)
      have hAl : A.length ≤ 90300 := by have h1 := HU.out.2.1; have : k * 301 ≤ 300 * 301 := Nat.mul_le_mul_right _ (by omega); omega
      have HNX := Lib.hid hnx
      have CO := Lib.hid (fun W (h : Below wr.heap.size wr W) => implOrdered w3.heap.size A.length A us W HU.out.2.2.1 (fun i u r hu hr => (HU.out.2.2.2.1 i u r hu hr).next h) (HU.out.2.2.2.2.next h) (fun m hm => (HB9.out.1 m hm).2.2) (by omega) (fun m hm => ⟨by have := (HB9.out.1 m hm).2.1; omega, by
        have h1 := HB9.out.1 m hm
        have h2 := rowText_len h1.1
        have h3 := h1.2.1
        unfold maxLen
        omega⟩))
      clear hkl hnx
      go_wp2_with fail
      refine (CO.out _ (by first | exact Below.refl _ _ | exact Below.drew (Below.refl _ _))).mono ?_
      rintro e w5 ⟨v, rfl, ov, hb5⟩
      have hb5' : Below wr.heap.size wr w5 := by first | exact hb5 | exact (Below.drew (Below.refl _ _)).trans hb5
      have B5 := HNX.out.trans (hb5'.mono HNX.out.size)
      have HSM : Hid (SmR (addAllR [] A)) := Lib.hid (fun m hm => by
        rcases addAllR_mem hm with h | h
        · simp at h
        · exact (HB9.out.1 m h).1)
      have HO5 := Lib.hid (OwnRsC.of (ov.base (by first | exact HNX.out.size | exact (HNX.out.drew).size : w.heap.size ≤ _)))
      obtain ⟨vx, vc, rfl, iv⟩ := ov.is (fun m hm t ht => by have := HSM.out m hm t ht; unfold maxLen; omega)
      obtain ⟨vn, hvn⟩ : ∃ n, (addAllR [] A).length = n := ⟨_, rfl⟩
      rw [hvn] at iv HO5 ⊢
      have HIV := Lib.hid iv
      have CR := Lib.hid (fun W (h : Below w5.heap.size w5 W) => implRowsOk vx vn vc (addAllR [] A) W (HIV.out.next h) HSM.out)
      have HFX : Hid (extOk gs rs ls = rowsOkL (addAllR [] A)) := Lib.hid (by rw [HOK.out]; exact HB9.out.2.1)
      have HRE : Hid (extOk gs rs ls = true → extR gs rs ls = addAllR [] A) := Lib.hid (fun h => by
        unfold extR
        rw [if_pos h]
        exact HB9.out.2.2.1)
      clear hb5 hb5' ov iv hvn CO
      generalize rowsOkL (addAllR [] A) = q at CR HFX
      go_wp2_with fail
      refine (CR.out _ (by first | exact Below.refl _ _ | exact Below.drew (Below.refl _ _))).mono ?_
      rintro e w6 ⟨rfl, hb6⟩
      have hb6' : Below w5.heap.size w5 w6 := by first | exact hb6 | exact (Below.drew (Below.refl _ _)).trans hb6
      have B6 := B5.trans (hb6'.mono B5.size)
      have HO6 := Lib.hid (HO5.out.next hb6').own
      clear hb6 hb6' CR HO5 B5
      cases q
      · go_wp2_with fail
        go_ret2
        exact ⟨_, by rw [HFX.out]; rfl, by rw [extR_no HFX.out]; exact OwnRs.none _ _, B6⟩
      · go_wp2_with fail
        go_ret2
        exact ⟨_, by rw [HFX.out]; rfl, by rw [HRE.out HFX.out]; exact HO6.out, B6⟩
end Go.Proofs.YtiajdnhmjdfeeaaGreat
