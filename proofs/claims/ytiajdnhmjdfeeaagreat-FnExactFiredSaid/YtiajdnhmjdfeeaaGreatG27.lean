/- One more pair in a row: the specification's way. -/
import Derived.Test.YtiajdnhmjdfeeaaGreatG18
import Derived.Test.YtiajdnhmjdfeeaaGreatG23
import Derived.Deep.QuietTactic
import Derived.BigQuiet
import Derived.Test.YtiajdnhmjdfeeaaGreatG26
import Derived.Test.YtiajdnhmjdfeeaaGreatG16
import Derived.Test.YtiajdnhmjdfeeaaGreatG13
import Derived.Test.YtiajdnhmjdfeeaaGreatG24
import Derived.Test.YtiajdnhmjdfeeaaGreatG01
namespace Go.Proofs.YtiajdnhmjdfeeaaGreat
open Go.RowKit Go.WideShapes
theorem ownP_some {B : Nat} {w : World} {v : Value} {ts : List Pre2} (h : OwnP B w v ts) (h0 : 0 < ts.length) : ∃ g c, v = .slice (some ⟨g, 0, none⟩) ts.length c := by
  rcases h.2 with ⟨_, e⟩ | ⟨g, c, cur, rfl, _⟩
  · omega
  · exact ⟨g, c, rfl⟩
theorem ownP_lower {B C : Nat} {w : World} {v : Value} {ts : List Pre2} (h : OwnP B w v ts) (hb : C ≤ B) : OwnP C w v ts := by
  refine ⟨h.1, h.2.imp id ?_⟩
  rintro ⟨g, c, cur, h1, h2, h3⟩
  exact ⟨g, c, cur, h1, by omega, h3⟩
theorem ownP_add {B : Nat} {w : World} {v : Value} {ts : List Pre2} {p : Pre2} {k : Nat} (hk : ts.length = k) (h : w.ownsRow B 55 2 v (k + 1) (flatP ts ++ [.string p.1, .string p.2])) : OwnP B w v (ts ++ [p]) := by
  subst hk; unfold OwnP; rw [flatP_snoc, List.length_append]; exact h
theorem bl_eqn {a b : ByteArray} (h : a ≠ b) : (a.toList == b.toList) = false := by
  rw [beq_eq_false_iff_ne, ByteArray.toList_eq, ByteArray.toList_eq]; exact fun e => h (data_inj e)
def PutPostP (B : Nat) (L : List Pre2) (p : Pre2) (w : World) (e : Ending) (w' : World) : Prop :=
  ∃ g' n' c' f, e = .returned (.tuple #[.slice (some ⟨g', 0, none⟩) n' c', .bool f]) ∧ (f = true → ∃ h, putP L p = some h ∧ OwnP B w' (.slice (some ⟨g', 0, none⟩) n' c') h ∧ h.length = n') ∧ (f = false → putP L p = none) ∧ Below w.heap.size w w'
set_option maxRecDepth 100000 in
set_option maxHeartbeats 3200000 in
theorem specPutP (B g n c : Nat) (L : List Pre2) (x y : ByteArray) (w : World) (h : OwnP B w (.slice (some ⟨g, 0, none⟩) n c) L) (hn : L.length = n) (hl : n ≤ 1048576) (hB : B ≤ w.heap.size) :
    Calls Tryz.prog 143 #[.slice (some ⟨g, 0, none⟩) n c, .string x, .string y] w (PutPostP B L (x, y) w) := by
  obtain ⟨i0, hi, hz0, hz1, hz2⟩ := info_parts infoPair
  have hgw : g < w.heap.size := (World.ownsRow.lt h g (by simp [Value.ownBlock])).2
  have hnc : n ≤ c := by
    rcases h.2 with ⟨e, _⟩ | ⟨_, _, _, e, _, _, h1, _⟩
    · cases e
    · cases e; rw [hn] at h1; exact h1
  have HC : Hid (∀ (j : Nat) (u : Value), (flatP L)[j]? = some u → w.cell? ⟨g, j, none⟩ = some u) := Lib.hid (fun j u hj => by
    have hjl := (List.getElem?_eq_some_iff.1 hj).1
    unfold OwnP at h
    rw [hn] at h
    rw [World.ownsRow.cellAt h j (by rw [flatP_len, hn] at hjl; omega)]; exact hj)
  have HL := Lib.hid hn
  have H := Lib.hid h
  clear h hn
  go_enter Tryz.func143, Tryz.ntmps143
  go_wp2_with fail
  go_loop [8] (fun i => ∃ k : Nat, k ≤ n ∧ i = .int .i64 k ∧ Hid (∀ (i : Nat) (u : Pre2), i < k → L[i]? = some u → Op.bytesLess u.1.data.toList x.data.toList = true)) (fun i => n - (intOf i).toNat)
  case atStart => exact ⟨0, Nat.zero_le _, rfl, Lib.hid (fun i u hi => by omega)⟩
  case round =>
    obtain ⟨k, hk, rfl, hah⟩ := hrel
    have hk6 : (0 : Int) ≤ (k : Int) := by omega
    by_cases hlt : k < n
    case' pos =>
      have hu : L[k]? = some (L[k]'(by have := HL.out; omega)) := List.getElem?_eq_getElem _
      generalize L[k]'(by have := HL.out; omega) = u at hu
      obtain ⟨f0, f1⟩ := flatP_at L k u hu
      have c0 := HC.out _ _ f0
      have c1 := HC.out _ _ f1
      have hk7 : (k : Int) < (n : Int) := by omega
      have hbl : Op.bytesLess u.1.toList x.toList = Op.bytesLess u.1.data.toList x.data.toList := by rw [ByteArray.toList_eq, ByteArray.toList_eq]
      have HU := Lib.hid hu
      clear hu f0 f1
      cases hq : Op.bytesLess u.1.data.toList x.data.toList
      case' true =>
        have HN : Hid (∀ (i : Nat) (u : Pre2), i < k + 1 → L[i]? = some u → Op.bytesLess u.1.data.toList x.data.toList = true) := Lib.hid (fun i v hi hv => by
          rcases Nat.lt_or_ge i k with g | g
          · exact hah.out i v g hv
          · obtain rfl : i = k := by omega
            rw [HU.out] at hv; obtain rfl := Option.some.inj hv; exact hq)
        rw [hq] at hbl
        clear hq hah HU c1
        go_wp2_with fail
        go_round
        case rel => exact ⟨k + 1, by omega, by go_num, HN⟩
        case measure => simp [intOf]; omega
      case' false =>
        have HAT : Hid (posP x L = k) := Lib.hid (posP_is hah.out (by have := HL.out; omega) (fun v hv => by rw [HU.out] at hv; obtain rfl := Option.some.inj hv; exact hq))
        rw [hq] at hbl
        clear hq hah
        by_cases he : u.1 = x
        case' pos =>
          have heq : (u.1.toList == x.toList) = true := by rw [he]; simp
          by_cases he2 : u.2 = y
          · have HSAME : Hid (putP L (x, y) = some L) := Lib.hid (putP_same (p := (x, y)) HAT.out HU.out he he2)
            have heq2 : (u.2.toList == y.toList) = true := by rw [he2]; simp
            clear he he2 HU HAT
            go_wp2_with fail
            go_quiet (fail)
            go_wp2_with fail
            go_ret2
            exact ⟨g, n, c, true, rfl, fun _ => ⟨L, HSAME.out, H.out, HL.out⟩, (fun e => by cases e), below_drewN (Below.refl _ _) _⟩
          · have HOTHER : Hid (putP L (x, y) = none) := Lib.hid (putP_other (p := (x, y)) HAT.out HU.out he he2)
            have heq2 : (u.2.toList == y.toList) = false := bl_eqn he2
            clear he he2 HU HAT
            go_wp2_with fail
            go_quiet (fail)
            go_wp2_with fail
            go_ret2
            exact ⟨g, n, c, false, rfl, (fun e => by cases e), fun _ => HOTHER.out, below_drewN (Below.refl _ _) _⟩
        case' neg =>
          have HPUT : Hid (putP L (x, y) = some ((L.take k ++ [(x, y)]) ++ L.drop k)) := Lib.hid (putP_new (p := (x, y)) HAT.out (fun q hq => by rw [HU.out] at hq; obtain rfl := Option.some.inj hq; exact he))
          have heq : (u.1.toList == x.toList) = false := bl_eqn he
          clear he HU HAT
    case' neg =>
      have HPUT : Hid (putP L (x, y) = some ((L.take k ++ [(x, y)]) ++ L.drop k)) := Lib.hid (putP_new (p := (x, y)) (posP_is hah.out (by have := HL.out; omega) (fun v hv => by have := (List.getElem?_eq_some_iff.1 hv).1; have := HL.out; omega)) (fun q hq => by have := (List.getElem?_eq_some_iff.1 hq).1; have := HL.out; omega))
      clear hah
    all_goals
      have O0 : OwnP w.heap.size (w.alloc (.cells #[] 55)) (.slice (some ⟨w.heap.size, 0, none⟩) 0 0) [] := World.ownsRow_lit (size := 2) (e := 55) w #[] 0 (Nat.le_refl _) (by decide) rfl
      have BA := (Below.refl w.heap.size w).alloc (Nat.le_refl _) (.cells #[] 55)
      have HO := Lib.hid O0
      have hlk : (L.take k).length = k := by rw [List.length_take, HL.out]; omega
      obtain ⟨tk, htk⟩ : ∃ l, L.take k = l := ⟨_, rfl⟩
      rw [htk] at hlk
      have HTK := Lib.hid htk
      have HLK := Lib.hid hlk
      have hld : (L.drop k).length = n - k := by rw [List.length_drop, HL.out]
      obtain ⟨td, htd⟩ : ∃ l, L.drop k = l := ⟨_, rfl⟩
      rw [htd] at hld
      have HTD := Lib.hid htd
      have HLD := Lib.hid hld
      have HSP : Hid (flatP L = flatP tk ++ flatP td) := Lib.hid (by rw [← htk, ← htd]; exact flatP_split L k)
      have HCA : Hid (∀ (j : Nat) (u : Value), (flatP tk)[j]? = some u → (w.alloc (.cells #[] 55)).cell? ((⟨g, 0, none⟩ : Addr).add j) = some u) := Lib.hid (fun j u hj => by
        rw [add_plain, Nat.zero_add, BA.cell (p := ⟨g, j, none⟩) hgw]
        refine HC.out j u ?_
        rw [HSP.out, List.getElem?_append_left (List.getElem?_eq_some_iff.1 hj).1]
        exact hj)
      clear htk hlk htd hld O0
      go_wp2_with (at_builtin; refine wpList_append_own _ rfl _ _ 50 rfl w.heap.size 55 i0 (.agg #[.string ⟨#[]⟩, .string ⟨#[]⟩]) 2 32 Tryz.underlying50 hi hz0 hz1 hz2 rfl (by decide) _ _ _ rfl HO.out ⟨g, 0, none⟩ k _ (flatP tk) rfl (by rw [flatP_len, HLK.out]) HCA.out (flatP_one tk) ?h63a ?h48a ?hbsa ?_)
      try (case h63a => first | (rw [List.length_nil]; unfold maxLen; omega) | (unfold maxLen; omega))
      try (case h48a => first | (rw [List.length_nil]; omega) | omega)
      try (case hbsa => first | omega | (simp only [World.size_alloc]; omega))
      intro v1 w1 hown1 hg1 _
      have O1 : OwnP w.heap.size w1 v1 tk := by unfold OwnP; rw [HLK.out]; simpa [flatP] using hown1
      have B1 := BA.grown hg1 BA.size (fun j hj => by simp [Value.ownBlock] at hj; omega)
      have HO1 := Lib.hid O1
      have hne1 := fun j hj => (World.ownsRow.lt O1 j hj).1
      have B1a := B1.alloc B1.size (.cells #[.string x, .string y] 55)
      have O1a := Lib.hid (World.ownsRow.alloc HO1.out (.cells #[.string x, .string y] 55))
      have HLK2 := HLK
      clear hown1 hg1 HO HCA O1 BA
      go_wp2_with (at_builtin; refine wpList_append_own _ rfl _ _ 50 rfl w.heap.size 55 i0 (.agg #[.string ⟨#[]⟩, .string ⟨#[]⟩]) 2 32 Tryz.underlying50 hi hz0 hz1 hz2 rfl (by decide) _ _ _ rfl O1a.out ⟨w1.heap.size, 0, none⟩ 1 _ [.string x, .string y] rfl rfl two_cell (by intro u hu; simp at hu; rcases hu with rfl | rfl <;> rfl) ?h63b ?h48b ?hbsb ?_)
      try (case h63b => first | (rw [HLK2.out]; unfold maxLen; omega) | (unfold maxLen; omega))
      try (case h48b => first | (rw [HLK2.out]; omega) | omega)
      try (case hbsb => first | exact B1a.size | omega | (simp only [World.size_alloc]; omega))
      intro v2 w2 hown2 hg2 _
      have O2 : OwnP w.heap.size w2 v2 (tk ++ [(x, y)]) := ownP_add (p := (x, y)) rfl hown2
      have B2 := B1a.grown hg2 B1a.size (fun j hj => by have := hne1 j hj; omega)
      have hne2 := fun j hj => (World.ownsRow.lt O2 j hj).1
      have HCC : Hid (∀ (j : Nat) (u : Value), (flatP td)[j]? = some u → w2.cell? ⟨g, k * 2 + j, none⟩ = some u) := Lib.hid (fun j u hj => by
        rw [B2.cell (p := ⟨g, k * 2 + j, none⟩) hgw]
        refine HC.out (k * 2 + j) u ?_
        rw [HSP.out, List.getElem?_append_right (by rw [flatP_len, HLK.out]; omega), flatP_len, HLK.out, Nat.add_sub_cancel_left]
        exact hj)
      have HO2 := Lib.hid O2
      have HLP : Hid ((tk ++ [(x, y)]).length = k + 1) := Lib.hid (by rw [List.length_append, HLK2.out]; rfl)
      obtain ⟨pf, hpf⟩ : ∃ l, tk ++ [(x, y)] = l := ⟨_, rfl⟩
      rw [hpf] at HO2 HLP
      have HPF := Lib.hid hpf
      clear hown2 hg2 O1a B1a O2 HO1 B1 hpf
      by_cases hcq : c = k
      · have HTD0 : Hid (td = []) := Lib.hid (List.length_eq_zero_iff.1 (by rw [HLD.out]; omega))
        go_wp2_with (at_builtin; refine wpList_append_own _ rfl _ _ 50 rfl w.heap.size 55 i0 (.agg #[.string ⟨#[]⟩, .string ⟨#[]⟩]) 2 32 Tryz.underlying50 hi hz0 hz1 hz2 rfl (by decide) _ _ _ rfl HO2.out _ (n - k) _ (flatP td) rfl (by rw [flatP_len, HLD.out]) ?hcl (flatP_one td) ?h63c ?h48c ?hbsc ?_)
        case hcl => intro j u hj; rw [HTD0.out] at hj; simp [flatP] at hj
        try (case h63c => first | (rw [HLP.out]; unfold maxLen; omega) | (unfold maxLen; omega))
        try (case h48c => first | (rw [HLP.out]; omega) | omega)
        try (case hbsc => first | exact B2.size | omega | (simp only [World.size_alloc]; omega))
        intro v3 w3 hown3 hg3 _
        have O3 : OwnP w.heap.size w3 v3 (pf ++ td) := by unfold OwnP; rw [List.length_append, HLD.out, HLP.out, flatP_append]; rw [HLP.out] at hown3; exact hown3
        have B3 := B2.grown hg3 B2.size (fun j hj => by have := hne2 j hj; omega)
        have hl3 : (pf ++ td).length = n + 1 := by rw [List.length_append, HLP.out, HLD.out]; omega
        obtain ⟨g3, c3, rfl⟩ := ownP_some O3 (by omega)
        have O4 := ownP_lower O3 hB
        rw [hl3] at O4 ⊢
        have HR : Hid (∃ h, putP L (x, y) = some h ∧ OwnP B w3 (.slice (some ⟨g3, 0, none⟩) (n + 1) c3) h ∧ h.length = n + 1) := Lib.hid ⟨pf ++ td, by rw [HPUT.out, ← HPF.out, HTK.out, HTD.out], O4, hl3⟩
        clear hown3 hg3 O3 O4 hl3
        go_wp2_with fail
        go_ret2
        exact ⟨g3, n + 1, c3, true, rfl, fun _ => HR.out, (fun e => by cases e), B3⟩
      · go_wp2_with (at_builtin; refine wpList_append_own _ rfl _ _ 50 rfl w.heap.size 55 i0 (.agg #[.string ⟨#[]⟩, .string ⟨#[]⟩]) 2 32 Tryz.underlying50 hi hz0 hz1 hz2 rfl (by decide) _ _ _ rfl HO2.out _ (n - k) _ (flatP td) rfl (by rw [flatP_len, HLD.out]) ?hcl (flatP_one td) ?h63c ?h48c ?hbsc ?_)
        case hcl => intro j u hj; rw [add_plain]; first | exact HCC.out j u hj | (simpa using HCC.out j u hj)
        try (case h63c => first | (rw [HLP.out]; unfold maxLen; omega) | (unfold maxLen; omega))
        try (case h48c => first | (rw [HLP.out]; omega) | omega)
        try (case hbsc => first | exact B2.size | omega | (simp only [World.size_alloc]; omega))
        intro v3 w3 hown3 hg3 _
        have O3 : OwnP w.heap.size w3 v3 (pf ++ td) := by unfold OwnP; rw [List.length_append, HLD.out, HLP.out, flatP_append]; rw [HLP.out] at hown3; exact hown3
        have B3 := B2.grown hg3 B2.size (fun j hj => by have := hne2 j hj; omega)
        have hl3 : (pf ++ td).length = n + 1 := by rw [List.length_append, HLP.out, HLD.out]; omega
        obtain ⟨g3, c3, rfl⟩ := ownP_some O3 (by omega)
        have O4 := ownP_lower O3 hB
        rw [hl3] at O4 ⊢
        have HR : Hid (∃ h, putP L (x, y) = some h ∧ OwnP B w3 (.slice (some ⟨g3, 0, none⟩) (n + 1) c3) h ∧ h.length = n + 1) := Lib.hid ⟨pf ++ td, by rw [HPUT.out, ← HPF.out, HTK.out, HTD.out], O4, hl3⟩
        clear hown3 hg3 O3 O4 hl3
        go_wp2_with fail
        go_ret2
        exact ⟨g3, n + 1, c3, true, rfl, fun _ => HR.out, (fun e => by cases e), B3⟩
end Go.Proofs.YtiajdnhmjdfeeaaGreat
/- What a row and a triple give: the program's own. -/
namespace Go.Proofs.YtiajdnhmjdfeeaaGreat
open Go.RowKit Go.WideShapes
theorem own_box_ne {B g : Nat} {w : World} {v : Value} {ts : RowV} {x y z : Value} {T : TypeId} (h : OwnP B w v ts) (hb : Box w g x y z T) (hT : T ≠ 55) : v.ownBlock ≠ some g := by
  intro e
  rcases h.2 with ⟨rfl, _⟩ | ⟨g', cap, cur, rfl, _, hg, _⟩
  · simp [Value.ownBlock] at e
  · simp [Value.ownBlock] at e
    subst e
    unfold Box at hb
    rw [hb] at hg
    simp only [Option.some.injEq, Obj.cells.injEq] at hg
    exact hT hg.2.1
theorem ownP_set3 {B g : Nat} {w : World} {v : Value} {ts : RowV} (h : OwnP B w v ts) (hne : v.ownBlock ≠ some g) (x y z : Value) : OwnP B (((w.setCell ⟨g, 0, none⟩ x).setCell ⟨g, 1, none⟩ y).setCell ⟨g, 2, none⟩ z) v ts := by
  have one : ∀ (w : World) (j : Nat) (u : Value), OwnP B w v ts → OwnP B (w.setCell ⟨g, j, none⟩ u) v ts := fun w j u h => by
    refine World.ownsRow.kept h (row := some g) ⟨rfl, rfl, rfl, by simp [World.setCell], fun k _ hk => Below.heap_setCell _ _ _ _ (fun e => hk (by rw [e]))⟩ (.inr hne)
  exact one _ 2 z (one _ 1 y (one _ 0 x h))
theorem insP_asc {q : RowV} {x y : ByteArray} (ha : Asc q) (h : inDom q x = false) : Asc (insP q (x, y)) := putP_asc ha (putP_out (fun v hv e => by
  have : inDom q x = true := inDom_iff.2 (List.mem_map.2 ⟨v, hv, e⟩)
  rw [h] at this; cases this))
theorem stepB_asc {q : RowV} {x y : ByteArray} (ha : Asc q) : Asc (stepB q x y) := by
  unfold stepB
  split
  · rename_i h; exact insP_asc ha h.2
  · exact ha
theorem insP_len (q : RowV) (u : Pre2) : (insP q u).length = q.length + 1 := by
  have := posP_le u.1 q
  unfold insP; simp [List.length_take]; omega
theorem stepB_len (q : RowV) (x y : ByteArray) : (stepB q x y).length ≤ q.length + 1 := by
  unfold stepB
  split
  · rw [insP_len]; omega
  · omega
theorem stepB_small {q : RowV} {x y : ByteArray} (h : SmP q) (hx : x.size ≤ 1048576) (hy : y.size ≤ 1048576) : SmP (stepB q x y) := by
  unfold stepB
  split
  · intro u hu
    rcases insP_mem.1 hu with hu | rfl
    · exact h u hu
    · exact ⟨hx, hy⟩
  · exact h
/-- The first k places bound. -/
def bndM (r : RowV) (ps ts : List ByteArray) : Nat → RowV
  | 0 => r
  | k + 1 => stepB (bndM r ps ts k) (ps[k]?.getD ⟨#[]⟩) (ts[k]?.getD ⟨#[]⟩)
theorem boundM_bnd (r : RowV) (a t : Tri3) : boundM r a t = bndM r (wordsT a) (wordsT t) 3 := by simp [boundM, bndM, wordsT]
theorem bndM_next {r : RowV} {ps ts : List ByteArray} {k : Nat} {x y : ByteArray} (hx : ps[k]? = some x) (hy : ts[k]? = some y) : bndM r ps ts (k + 1) = stepB (bndM r ps ts k) x y := by simp only [bndM, hx, hy, Option.getD_some]
theorem word_most {a : Tri3} (h : a.1.size ≤ 1048576 ∧ a.2.1.size ≤ 1048576 ∧ a.2.2.size ≤ 1048576) (j : Nat) (x : ByteArray) (hx : (wordsT a)[j]? = some x) : x.size ≤ 1048576 := by
  obtain ⟨a1, a2, a3⟩ := a
  rcases words_cases hx with ⟨rfl, rfl⟩ | ⟨rfl, rfl⟩ | ⟨rfl, rfl⟩
  · exact h.1
  · exact h.2.1
  · exact h.2.2
/-- Two boxes of three words, one behind the other. -/
def Two (w : World) (g : Nat) (p1 p2 p3 t1 t2 t3 : ByteArray) : Prop := Box w g (.string p1) (.string p2) (.string p3) 65 ∧ Box w (g + 1) (.string t1) (.string t2) (.string t3) 65
section
variable {w w' : World} {g : Nat} {p1 p2 p3 t1 t2 t3 : ByteArray}
theorem Two.next (h : Two w g p1 p2 p3 t1 t2 t3) (hb : Below w.heap.size w w') : Two w' g p1 p2 p3 t1 t2 t3 := ⟨h.1.next hb, h.2.next hb⟩
theorem Two.alloc (h : Two w g p1 p2 p3 t1 t2 t3) (o : Obj) : Two (w.alloc o) g p1 p2 p3 t1 t2 t3 := ⟨h.1.alloc o, h.2.alloc o⟩
theorem Two.drew (h : Two w g p1 p2 p3 t1 t2 t3) : Two w.drew g p1 p2 p3 t1 t2 t3 := h
theorem Two.cells (h : Two w g p1 p2 p3 t1 t2 t3) : w.cell? ⟨g, 0, none⟩ = some (.string p1) ∧ w.cell? ⟨g, 1, none⟩ = some (.string p2) ∧ w.cell? ⟨g, 2, none⟩ = some (.string p3) := h.1.cells
theorem Two.set3 (h : Two w g p1 p2 p3 t1 t2 t3) {k : Nat} (hk : g + 1 < k) (x y z : Value) : Two (((w.setCell ⟨k, 0, none⟩ x).setCell ⟨k, 1, none⟩ y).setCell ⟨k, 2, none⟩ z) g p1 p2 p3 t1 t2 t3 :=
  ⟨((h.1.far (a := ⟨k, 0, none⟩) (by show g ≠ k; omega) x).far (a := ⟨k, 1, none⟩) (by show g ≠ k; omega) y).far (a := ⟨k, 2, none⟩) (by show g ≠ k; omega) z,
   ((h.2.far (a := ⟨k, 0, none⟩) (by show g + 1 ≠ k; omega) x).far (a := ⟨k, 1, none⟩) (by show g + 1 ≠ k; omega) y).far (a := ⟨k, 2, none⟩) (by show g + 1 ≠ k; omega) z⟩
end
theorem box_set3B {w : World} {g : Nat} {x y z : Value} {T : TypeId} (h : Box w g x y z T) (a b c : Value) : Box (((w.setCell ⟨g, 0, none⟩ a).setCell ⟨g, 1, none⟩ b).setCell ⟨g, 2, none⟩ c) g a b c T := ((h.set0 a).set1 b).setc2 c
set_option maxRecDepth 100000 in
set_option maxHeartbeats 6400000 in
theorem implBound (a : Option Addr) (n c : Nat) (r : RowV) (p t : Tri3) (w : World) (h : IsPres w a n c r) (ha : Asc r) (hn : n ≤ 1000) (hr : SmP r) (hp : p.1.size ≤ 1048576 ∧ p.2.1.size ≤ 1048576 ∧ p.2.2.size ≤ 1048576) (ht : t.1.size ≤ 1048576 ∧ t.2.1.size ≤ 1048576 ∧ t.2.2.size ≤ 1048576) :
    Calls Tryz.prog 161 #[.slice a n c, .agg #[.string p.1, .string p.2.1, .string p.2.2], .agg #[.string t.1, .string t.2.1, .string t.2.2]] w fun e w' => ∃ v, e = .returned v ∧ OwnP w.heap.size w' v (boundM r p t) ∧ Below w.heap.size w w' := by
  have HPW := Lib.hid (word_most hp)
  have HTW := Lib.hid (word_most ht)
  have HBD := Lib.hid (boundM_bnd r p t)
  obtain ⟨p1, p2, p3⟩ := p
  obtain ⟨t1, t2, t3⟩ := t
  dsimp only
  have HL := Lib.hid h.len
  have HR := Lib.hid hr
  have HAS := Lib.hid ha
  have HC : Hid (∀ W, Below w.heap.size w W → Calls Tryz.prog 79 #[.slice a n c] W fun e w' => ∃ v, e = .returned v ∧ OwnP w.heap.size w' v r ∧ Below W.heap.size W w' ∧ Below w.heap.size w w') := Lib.hid (fun W hW => (clonePair a n c r W (h.next hW) (by omega)).mono fun e w' ⟨v, he, ho, hb⟩ => ⟨v, he, ownP_base ho hW.size, hb, hW.trans (hb.mono hW.size)⟩)
  have HPp : Hid (∀ W, Below w.heap.size w W → Calls Tryz.prog 82 #[.agg #[.string p1, .string p2, .string p3]] W fun e w' => e = .returned (.agg #[.string p1, .string p2, .string p3]) ∧ Below W.heap.size W w' ∧ Below w.heap.size w w') := Lib.hid (fun W hW => (implParts p1 p2 p3 W).mono fun e w' ⟨he, hb⟩ => ⟨he, hb, hW.trans (hb.mono hW.size)⟩)
  have E1 := Box.new w (.string p1) (.string p2) (.string p3) 65
  have B1 := (Below.refl w.heap.size w).alloc (Nat.le_refl _) (.cells #[.string p1, .string p2, .string p3] 65)
  have E2 := Box.new (w.alloc (.cells #[.string p1, .string p2, .string p3] 65)) (.string t1) (.string t2) (.string t3) 65
  have E1' := E1.alloc (.cells #[.string t1, .string t2, .string t3] 65)
  have B2 := B1.alloc B1.size (.cells #[.string t1, .string t2, .string t3] 65)
  rw [World.size_alloc] at E2
  clear E1 B1 h hp ht hr ha
  go_enter Tryz.func161, Tryz.ntmps161
  go_wp2_with fail
  generalize (w.alloc (.cells #[.string p1, .string p2, .string p3] 65)).alloc (.cells #[.string t1, .string t2, .string t3] 65) = w2 at E1' E2 B2 ⊢
  have BI := Lib.hid B2
  have BF := Lib.hid B2.drew
  have XX : Hid (Two w2 w.heap.size p1 p2 p3 t1 t2 t3) := Lib.hid ⟨E1', E2⟩
  have hT : (116 : TypeId) ≠ 55 := by decide
  clear B2 E1' E2
  go_region_held3 (fun w' => w'.cell? ⟨w.heap.size, 0, none⟩ = some (.string p1) ∧ w'.cell? ⟨w.heap.size, 1, none⟩ = some (.string p2) ∧ w'.cell? ⟨w.heap.size, 2, none⟩ = some (.string p3))
    (first | with_reducible exact (XX6.out.set3 ZL _ _ _).cells | with_reducible exact XX6.out.cells | with_reducible exact (XX6.out.alloc _).cells | with_reducible exact XX5.out.cells | with_reducible exact (XX5.out.alloc _).cells | with_reducible exact XX.out.drew.cells | with_reducible exact (XX.out.alloc _).drew.cells)
    (first
      | (go_at_call 79; first | refine (HC.out _ BF.out).mono ?_ | refine (HC.out _ (BI.out.alloc BI.out.size (.cells #[.string ⟨#[]⟩, .string ⟨#[]⟩, .string ⟨#[]⟩] 116)).drew).mono ?_
         rintro e w5 ⟨v, rfl, o5, hb5, b5⟩
         have XX5 : Hid (Two w5 w.heap.size p1 p2 p3 t1 t2 t3) := Lib.hid (by first | exact XX.out.drew.next hb5 | exact (XX.out.alloc (.cells #[.string ⟨#[]⟩, .string ⟨#[]⟩, .string ⟨#[]⟩] 116)).drew.next hb5)
         have B5 := Lib.hid b5
         (first | (have Z := Box.next (Box.drew (Box.new w2 (.string ⟨#[]⟩) (.string ⟨#[]⟩) (.string ⟨#[]⟩) 116)) hb5; have ZL := XX.out.2.lt) | skip))
      | (go_at_call 82; first | refine (HPp.out _ B5.out).mono ?_ | refine (HPp.out _ (B5.out.alloc B5.out.size (.cells #[.string ⟨#[]⟩, .string ⟨#[]⟩, .string ⟨#[]⟩] 116))).mono ?_
         rintro e w6 ⟨rfl, hb6, b6⟩
         have XX6 : Hid (Two w6 w.heap.size p1 p2 p3 t1 t2 t3) := Lib.hid (by first | exact XX5.out.next hb6 | exact (XX5.out.alloc (.cells #[.string ⟨#[]⟩, .string ⟨#[]⟩, .string ⟨#[]⟩] 116)).next hb6)
         have O6 : Hid (OwnP w.heap.size w6 v r) := Lib.hid (by first | exact ownP_kept o5 hb6 | exact ownP_kept (World.ownsRow.alloc o5 (.cells #[.string ⟨#[]⟩, .string ⟨#[]⟩, .string ⟨#[]⟩] 116)) hb6)
         have B6 := Lib.hid b6
         (first | (have Z2 := Box.next Z hb6; clear Z; have Z := Z2; clear Z2) | (have Z := Box.next (Box.new w5 (.string ⟨#[]⟩) (.string ⟨#[]⟩) (.string ⟨#[]⟩) 116) hb6; have ZL := XX5.out.2.lt) | skip)
         (first | (obtain ⟨z0, z1, z2⟩ := Z.cells; obtain ⟨f0, f1, f2⟩ := Z.free) | skip)))
  all_goals
    first
      | (have Z' : Box w6 w2.heap.size (.string ⟨#[]⟩) (.string ⟨#[]⟩) (.string ⟨#[]⟩) 116 := by with_reducible exact Z
         have HZ := Lib.hid (box_set3B Z (.string p1) (.string p2) (.string p3)); have HB := Lib.hid (below_set3 B6.out w2.heap.size (by omega) (.string p1) (.string p2) (.string p3)); have HO := Lib.hid (ownP_set3 O6.out (own_box_ne O6.out Z hT) (.string p1) (.string p2) (.string p3)); have HX := Lib.hid (XX6.out.set3 ZL (.string p1) (.string p2) (.string p3)).2
         try clear z0 z1 z2 f0 f1 f2
         clear Z Z' hb5 b5 hb6 b6 o5 B5 B6 O6 XX5 XX6 BI BF XX HC HPp
         generalize ((w6.setCell ⟨w2.heap.size, 0, none⟩ (.string p1)).setCell ⟨w2.heap.size, 1, none⟩ (.string p2)).setCell ⟨w2.heap.size, 2, none⟩ (.string p3) = wz at HZ HX HB HO ⊢
         generalize w2.heap.size = gb at HZ ZL ⊢)
      | (have Z' : Box w6 w5.heap.size (.string ⟨#[]⟩) (.string ⟨#[]⟩) (.string ⟨#[]⟩) 116 := by with_reducible exact Z
         have HZ := Lib.hid (box_set3B Z (.string p1) (.string p2) (.string p3)); have HB := Lib.hid (below_set3 B6.out w5.heap.size (by omega) (.string p1) (.string p2) (.string p3)); have HO := Lib.hid (ownP_set3 O6.out (own_box_ne O6.out Z hT) (.string p1) (.string p2) (.string p3)); have HX := Lib.hid (XX6.out.set3 ZL (.string p1) (.string p2) (.string p3)).2
         try clear z0 z1 z2 f0 f1 f2
         clear Z Z' hb5 b5 hb6 b6 o5 B5 B6 O6 XX5 XX6 BI BF XX HC HPp
         generalize ((w6.setCell ⟨w5.heap.size, 0, none⟩ (.string p1)).setCell ⟨w5.heap.size, 1, none⟩ (.string p2)).setCell ⟨w5.heap.size, 2, none⟩ (.string p3) = wz at HZ HX HB HO ⊢
         generalize w5.heap.size = gb at HZ ZL ⊢)
      | (have ZL := XX6.out.2.lt; have HZ := Lib.hid (Box.new w6 (.string p1) (.string p2) (.string p3) 116); have HB := Lib.hid (B6.out.alloc B6.out.size (.cells #[.string p1, .string p2, .string p3] 116)); have HO : Hid (OwnP w.heap.size _ v r) := Lib.hid (World.ownsRow.alloc O6.out (.cells #[.string p1, .string p2, .string p3] 116)); have HX := Lib.hid (XX6.out.alloc (.cells #[.string p1, .string p2, .string p3] 116)).2
         clear hb5 b5 hb6 b6 o5 B5 B6 O6 XX5 XX6 BI BF XX HC HPp
         generalize w6.alloc (.cells #[.string p1, .string p2, .string p3] 116) = wz at HZ HX HB HO ⊢
         generalize w6.heap.size = gb at HZ ZL ⊢)
  all_goals
    obtain ⟨ga, ca, hve, _⟩ := HO.out.is (fun t ht => by have := HR.out t ht; unfold maxLen; omega)
    subst hve
    have HASC : Hid (∀ k, Asc (bndM r (wordsT (p1, p2, p3)) (wordsT (t1, t2, t3)) k)) := Lib.hid (fun k => by
      induction k with
      | zero => exact HAS.out
      | succ k ih => exact stepB_asc ih)
    have HSM : Hid (∀ k, k ≤ 3 → SmP (bndM r (wordsT (p1, p2, p3)) (wordsT (t1, t2, t3)) k)) := Lib.hid (fun k => by
      induction k with
      | zero => intro _; exact HR.out
      | succ k ih =>
        intro hk
        have hx : (wordsT (p1, p2, p3))[k]? = some ((wordsT (p1, p2, p3))[k]'(by simp only [wordsT, List.length_cons, List.length_nil]; omega)) := List.getElem?_eq_getElem _
        have hy : (wordsT (t1, t2, t3))[k]? = some ((wordsT (t1, t2, t3))[k]'(by simp only [wordsT, List.length_cons, List.length_nil]; omega)) := List.getElem?_eq_getElem _
        rw [bndM_next hx hy]
        exact stepB_small (ih (by omega)) (HPW.out k _ hx) (HTW.out k _ hy))
    have OZ : Hid (OwnP w.heap.size wz (.slice ga r.length ca) (bndM r (wordsT (p1, p2, p3)) (wordsT (t1, t2, t3)) 0) ∧ (bndM r (wordsT (p1, p2, p3)) (wordsT (t1, t2, t3)) 0).length = r.length) := Lib.hid ⟨HO.out, rfl⟩
    have hrn : r.length ≤ n + 0 := by rw [HL.out]; omega
    generalize r.length = rn at OZ hrn ⊢
    have HBW := Lib.hid (fun (W : World) (hb : Box W gb (.string p1) (.string p2) (.string p3) 116) => box_word hb)
    have HIX := Lib.hid (fun (j : Nat) (x : ByteArray) (h : (wordsT (t1, t2, t3))[j]? = some x) => index3 t1 t2 t3 j x h)
    obtain ⟨ps, hps⟩ : ∃ l, wordsT (p1, p2, p3) = l := ⟨_, rfl⟩
    obtain ⟨ts, hts⟩ : ∃ l, wordsT (t1, t2, t3) = l := ⟨_, rfl⟩
    have hpl : ps.length = 3 := by rw [← hps]; rfl
    have htl : ts.length = 3 := by rw [← hts]; rfl
    have HPS := Lib.hid hps
    have HTS := Lib.hid hts
    rw [hps] at HPW HBD HASC HSM OZ
    rw [hts] at HTW HBD HASC HSM OZ HIX
    have CT := Lib.hid (fun W => implParts t1 t2 t3 W)
    obtain ⟨d0, d1, d2⟩ := HX.out.cells
    clear hps hts HO HAS HR ZL
    go_wp2_with fail
    refine (CT.out _).mono ?_
    rintro e w7 ⟨rfl, hb7⟩
    have OZ7 : Hid (OwnP w.heap.size w7 (.slice ga rn ca) (bndM r ps ts 0) ∧ (bndM r ps ts 0).length = rn) := Lib.hid ⟨ownP_kept OZ.out.1 hb7, OZ.out.2⟩
    have HZ7 := Lib.hid (HZ.out.next hb7)
    have B7 := HB.out.trans (hb7.mono HB.out.size)
    clear hb7 CT d0 d1 d2 OZ HZ HX HB
    go_wp2_with fail
    go_loopw [7, 19] (fun o i wr => ∃ k : Nat, k ≤ 3 ∧ i = .int .i64 k ∧ (∃ g n' c', o = .slice g n' c' ∧ n' ≤ n + k ∧ Hid (OwnP w.heap.size wr (.slice g n' c') (bndM r ps ts k) ∧ (bndM r ps ts k).length = n')) ∧ Hid (Box wr gb (.string p1) (.string p2) (.string p3) 116) ∧ Below w.heap.size w wr) (fun _ i _ => 3 - (intOf i).toNat)
    case atStart => exact ⟨0, Nat.zero_le _, rfl, ⟨_, _, _, rfl, hrn, OZ7⟩, HZ7, B7⟩
    case round =>
      obtain ⟨k, hk, rfl, ⟨g', n', c', rfl, hn', HQQ⟩, HZ, hnx⟩ := hrel
      clear OZ7 HZ7 B7 hrn
      have hk6 : (0 : Int) ≤ (k : Int) := by omega
      by_cases hlt : k < 3
      · have hxx : ps[k]? = some (ps[k]'(by omega)) := List.getElem?_eq_getElem (by omega)
        have hyy : ts[k]? = some (ts[k]'(by omega)) := List.getElem?_eq_getElem (by omega)
        generalize ps[k]'(by omega) = x at hxx
        generalize ts[k]'(by omega) = y at hyy
        have hx1 := HPW.out k x hxx
        have hy1 := HTW.out k y hyy
        have cx := HBW.out _ HZ.out k x (by rw [HPS.out]; exact hxx)
        have hidx := HIX.out k y hyy
        have HN := Lib.hid (bndM_next (r := r) hxx hyy)
        have HXX := Lib.hid hxx
        have hasc := HASC.out k
        have hsm := HSM.out k (by omega)
        have HNX2 := Lib.hid (HSM.out (k + 1) (by omega))
        have hk7 : (k : Int) < 3 := by omega
        generalize bndM r ps ts k = q at HQQ HN hasc hsm
        have hq2 := HQQ.out.2
        have CP := Lib.hid (fun W (hW : Below wr.heap.size wr W) => implPlaceIn g' n' c' q x W (by
          obtain ⟨a9, c9, e9, i9⟩ := HQQ.out.1.is (fun t ht => by have := hsm t ht; unfold maxLen; omega)
          rw [hq2] at e9 i9
          cases e9
          exact i9.next hW) hasc (by omega))
        have CV' := implIsVar x (by omega)
        obtain ⟨qv, hqv⟩ : ∃ qv, isVarK x.data.toList = qv := ⟨_, rfl⟩
        rw [hqv] at CV'
        have CV := Lib.hid CV'
        have HV := Lib.hid hqv
        have HSMQ := Lib.hid hsm
        clear CV' hqv hxx hyy hasc hsm
        go_wp2_with fail
        clear hidx
        refine (CP.out _ (by first | exact Below.refl _ _ | exact Below.drew (Below.refl _ _))).mono ?_
        rintro e w8 ⟨lo, f, rfl, hlo, hpos, hyes, hno, hb8⟩
        have hb8' : Below wr.heap.size wr w8 := by first | exact hb8 | exact (Below.drew (Below.refl _ _)).trans hb8
        have B8 := hnx.trans (hb8'.mono hnx.size)
        have HZ8 := Lib.hid (HZ.out.next hb8')
        have HO8 := Lib.hid (ownP_kept HQQ.out.1 hb8')
        have cx8 := HBW.out _ HZ8.out k x (by rw [HPS.out]; exact HXX.out)
        have HYN := Lib.hid (And.intro hyes hno)
        have HPO := Lib.hid (And.intro hlo hpos)
        have hqn := HQQ.out.2
        clear hb8 hb8' hnx CP cx HZ HQQ hyes hno hpos
        go_wp2_with fail
        refine (CV.out _).mono ?_
        rintro e w9 ⟨rfl, hb9⟩
        have B9 := B8.trans (hb9.mono B8.size)
        have HZ9 := Lib.hid (HZ8.out.next hb9)
        have HO9 := Lib.hid (ownP_kept HO8.out hb9)
        have cx9 := HBW.out _ HZ9.out k x (by rw [HPS.out]; exact HXX.out)
        clear hb9 CV cx8 HZ8 HO8 B8
        by_cases hins : qv = true ∧ f = false
        · obtain ⟨rfl, rfl⟩ := hins
          have hdm : inDom q x = false := by
            cases g : inDom q x
            · rfl
            · obtain ⟨u, hu, hux⟩ := List.mem_map.1 (inDom_iff.1 g)
              exact absurd hux (HYN.out.2 rfl u hu)
          have HS : Hid (bndM r ps ts (k + 1) = (q.take lo ++ [(x, y)]) ++ q.drop lo) := Lib.hid (by
            rw [HN.out]; unfold stepB; rw [if_pos ⟨HV.out, hdm⟩]; unfold insP; rw [HPO.out.2])
          have V0 := Box2.new w9 (.string x) (.string y) 55
          have OV := World.ownsRow.alloc HO9.out (.cells #[.string x, .string y] 55)
          have BV := B9.alloc B9.size (.cells #[.string x, .string y] 55)
          have hlt5 := fun j hj => (World.ownsRow.lt HO9.out j hj)
          have CI := Lib.hid (insPair w.heap.size (.slice g' n' c') q (x, y) lo (w9.alloc (.cells #[.string x, .string y] 55)) w9.heap.size 55 OV BV.size V0 (fun e => by have := (hlt5 _ e).2; omega) (by omega) hlo)
          have HBV := Lib.hid BV
          have HZV := Lib.hid (HZ9.out.alloc (.cells #[.string x, .string y] 55))
          have HNE := Lib.hid (own_box_ne HO9.out HZ9.out hT)
          clear OV BV V0 hdm HZ9 B9
          go_wp2_with fail
          refine CI.out.mono ?_
          rintro e w6 ⟨v6, rfl, o6, hg6⟩
          have B6 := HBV.out.grown hg6 HBV.out.size (fun j hj => (hlt5 j hj).1)
          have HZ6 := Lib.hid (HZV.out.grown hg6 (fun e => HNE.out e.symm))
          rw [← HS.out] at o6
          obtain ⟨g6, c6, hv6, _⟩ := o6.is (fun u hu => by have := HNX2.out u hu; unfold maxLen; omega)
          subst hv6
          have hl6 : (bndM r ps ts (k + 1)).length ≤ n + (k + 1) := by rw [HN.out]; have := stepB_len q x y; omega
          obtain ⟨n6, hn6⟩ : ∃ n6, (bndM r ps ts (k + 1)).length = n6 := ⟨_, rfl⟩
          rw [hn6] at o6 hl6 ⊢
          have HO6 : Hid (OwnP w.heap.size w6 (.slice g6 n6 c6) (bndM r ps ts (k + 1)) ∧ (bndM r ps ts (k + 1)).length = n6) := Lib.hid ⟨o6, hn6⟩
          clear hn6
          clear CI hg6 o6 HBV HZV hlt5 HNE HO9 HS
          go_wp2_with fail
          go_roundw
          case rel => exact ⟨k + 1, by omega, by go_num, ⟨g6, _, c6, rfl, hl6, HO6⟩, HZ6, B6⟩
          case measure => simp [intOf]; omega
        · have HS : Hid (bndM r ps ts (k + 1) = q) := Lib.hid (by
            rw [HN.out]; unfold stepB; rw [if_neg]
            rintro ⟨h1, h2⟩
            refine hins ⟨by rw [← HV.out]; exact h1, ?_⟩
            cases f
            · rfl
            · obtain ⟨u, hu, hux⟩ := HYN.out.1 rfl
              have : inDom q x = true := inDom_iff.2 (List.mem_map.2 ⟨u, List.mem_of_getElem? hu, hux⟩)
              rw [h2] at this; cases this)
          have HO6 : Hid (OwnP w.heap.size w9 (.slice g' n' c') (bndM r ps ts (k + 1)) ∧ (bndM r ps ts (k + 1)).length = n') := Lib.hid (by rw [HS.out]; exact ⟨HO9.out, hqn⟩)
          clear HO9 HS
          cases qv <;> cases f
          case' true.false => exact absurd ⟨rfl, rfl⟩ hins
          all_goals
            clear hins
            go_wp2_with fail
            go_roundw
            case rel => exact ⟨k + 1, by omega, by go_num, ⟨g', n', c', rfl, by omega, HO6⟩, HZ9, B9⟩
            case measure => simp [intOf]; omega
      · have HF : Hid (OwnP w.heap.size wr (.slice g' n' c') (boundM r (p1, p2, p3) (t1, t2, t3))) := Lib.hid (by
          rw [HBD.out]
          have h1 := HQQ.out.1
          have e : k = 3 := by omega
          rw [e] at h1
          exact h1)
        clear HQQ
        go_wp2_with fail
        go_ret
        exact ⟨.slice g' n' c', rfl, HF.out, hnx⟩
end Go.Proofs.YtiajdnhmjdfeeaaGreat
/- Alike where alike: the program's own test. -/
namespace Go.Proofs.YtiajdnhmjdfeeaaGreat
open Go.RowKit Go.WideShapes
def alikeB (a t : Tri3) : Bool := (!(a.1.toList == a.2.1.toList) || t.1.toList == t.2.1.toList) && ((!(a.1.toList == a.2.2.toList) || t.1.toList == t.2.2.toList) && (!(a.2.1.toList == a.2.2.toList) || t.2.1.toList == t.2.2.toList))
set_option maxRecDepth 100000 in
set_option maxHeartbeats 3200000 in
theorem implAlike (a t : Tri3) (w : World) : Calls Tryz.prog 160 #[.agg #[.string a.1, .string a.2.1, .string a.2.2], .agg #[.string t.1, .string t.2.1, .string t.2.2]] w fun e w' => e = .returned (.bool (alikeB a t)) ∧ Below w.heap.size w w' := by
  obtain ⟨a1, a2, a3⟩ := a
  obtain ⟨t1, t2, t3⟩ := t
  unfold alikeB
  dsimp only
  have E1 := Box.new w (.string a1) (.string a2) (.string a3) 65
  have B1 := (Below.refl w.heap.size w).alloc (Nat.le_refl _) (.cells #[.string a1, .string a2, .string a3] 65)
  have E2 := Box.new (w.alloc (.cells #[.string a1, .string a2, .string a3] 65)) (.string t1) (.string t2) (.string t3) 65
  have E1' := E1.alloc (.cells #[.string t1, .string t2, .string t3] 65)
  have B2 := B1.alloc B1.size (.cells #[.string t1, .string t2, .string t3] 65)
  obtain ⟨x0, x1, x2⟩ := E1'.cells
  obtain ⟨y0, y1, y2⟩ := E2.cells
  cases b1 : (a1.toList == a2.toList) <;> cases d1 : (t1.toList == t2.toList) <;> cases b2 : (a1.toList == a3.toList) <;> cases d2 : (t1.toList == t3.toList) <;> cases b3 : (a2.toList == a3.toList) <;> cases d3 : (t2.toList == t3.toList)
  all_goals
    go_enter Tryz.func160, Tryz.ntmps160
    go_wp2_with fail
    go_ret
    exact ⟨rfl, B2⟩
end Go.Proofs.YtiajdnhmjdfeeaaGreat
