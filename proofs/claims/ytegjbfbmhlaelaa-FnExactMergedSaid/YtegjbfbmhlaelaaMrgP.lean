/- One more pair in a row: the specification's way. -/
import Derived.Test.YtegjbfbmhlaelaaMrgM
import Derived.Test.YtegjbfbmhlaelaaMrgC
import Derived.Deep.QuietTactic
import Derived.BigQuiet
namespace Go.Proofs.Ytegjbfbmhlaelaa
open Go.RowKit Go.WideShapes
theorem ownP_some {B : Nat} {w : World} {v : Value} {ts : List Pre2} (h : OwnP B w v ts) (h0 : 0 < ts.length) : ∃ g c, v = .slice (some ⟨g, 0, none⟩) ts.length c := by
  rcases h.2 with ⟨_, e⟩ | ⟨g, c, cur, rfl, _⟩
  · omega
  · exact ⟨g, c, rfl⟩
theorem ownP_lower {B C : Nat} {w : World} {v : Value} {ts : List Pre2} (h : OwnP B w v ts) (hb : C ≤ B) : OwnP C w v ts := by
  refine ⟨h.1, h.2.imp id ?_⟩
  rintro ⟨g, c, cur, h1, h2, h3⟩
  exact ⟨g, c, cur, h1, by omega, h3⟩
theorem ownP_add {B : Nat} {w : World} {v : Value} {ts : List Pre2} {p : Pre2} {k : Nat} (hk : ts.length = k) (h : w.ownsRow B 86 2 v (k + 1) (flatP ts ++ [.string p.1, .string p.2])) : OwnP B w v (ts ++ [p]) := by
  subst hk; unfold OwnP; rw [flatP_snoc, List.length_append]; exact h
theorem bl_eqn {a b : ByteArray} (h : a ≠ b) : (a.toList == b.toList) = false := by
  rw [beq_eq_false_iff_ne, ByteArray.toList_eq, ByteArray.toList_eq]; exact fun e => h (data_inj e)
def PutPostP (B : Nat) (L : List Pre2) (p : Pre2) (w : World) (e : Ending) (w' : World) : Prop :=
  ∃ g' n' c' f, e = .returned (.tuple #[.slice (some ⟨g', 0, none⟩) n' c', .bool f]) ∧ (f = true → ∃ h, putP L p = some h ∧ OwnP B w' (.slice (some ⟨g', 0, none⟩) n' c') h ∧ h.length = n') ∧ (f = false → putP L p = none) ∧ Below w.heap.size w w'
set_option maxRecDepth 100000 in
set_option maxHeartbeats 3200000 in
theorem specPutP (B g n c : Nat) (L : List Pre2) (x y : ByteArray) (w : World) (h : OwnP B w (.slice (some ⟨g, 0, none⟩) n c) L) (hn : L.length = n) (hl : n ≤ 1048576) (hB : B ≤ w.heap.size) :
    Calls Try.prog 65 #[.slice (some ⟨g, 0, none⟩) n c, .string x, .string y] w (PutPostP B L (x, y) w) := by
  obtain ⟨i0, hi, hz0, hz1, hz2⟩ := info_parts infoPair
  have hgw : g < w.heap.size := (World.ownsRow.lt h g (by simp [Value.ownBlock])).2
  have hnc : n ≤ c := by
    rcases h.2 with ⟨e, _⟩ | ⟨_, _, _, e, _, _, h1, _⟩
    · cases e
    · cases e; rw [hn] at h1; exact h1
  have HC : Hid (∀ (j : Nat) (u : Value), (flatP L)[j]? = some u → w.cell? ⟨g, j, none⟩ = some u) := Lib.hid (fun j u hj => by
    have hjl := (List.getElem?_eq_some_iff.1 hj).1
    unfold OwnP at h
    rw [hn] at h
    rw [World.ownsRow.cellAt h j (by rw [flatP_len, hn] at hjl; omega)]; exact hj)
  have HL := Lib.hid hn
  have H := Lib.hid h
  clear h hn
  go_enter Try.func65, Try.ntmps65
  go_wp2_with fail
  go_loop [8] (fun i => ∃ k : Nat, k ≤ n ∧ i = .int .i64 k ∧ Hid (∀ (i : Nat) (u : Pre2), i < k → L[i]? = some u → Op.bytesLess u.1.data.toList x.data.toList = true)) (fun i => n - (intOf i).toNat)
  case atStart => exact ⟨0, Nat.zero_le _, rfl, Lib.hid (fun i u hi => by omega)⟩
  case round =>
    obtain ⟨k, hk, rfl, hah⟩ := hrel
    have hk6 : (0 : Int) ≤ (k : Int) := by omega
    by_cases hlt : k < n
    case' pos =>
      have hu : L[k]? = some (L[k]'(by have := HL.out; omega)) := List.getElem?_eq_getElem _
      generalize L[k]'(by have := HL.out; omega) = u at hu
      obtain ⟨f0, f1⟩ := flatP_at L k u hu
      have c0 := HC.out _ _ f0
      have c1 := HC.out _ _ f1
      have hk7 : (k : Int) < (n : Int) := by omega
      have hbl : Op.bytesLess u.1.toList x.toList = Op.bytesLess u.1.data.toList x.data.toList := by rw [ByteArray.toList_eq, ByteArray.toList_eq]
      have HU := Lib.hid hu
      clear hu f0 f1
      cases hq : Op.bytesLess u.1.data.toList x.data.toList
      case' true =>
        have HN : Hid (∀ (i : Nat) (u : Pre2), i < k + 1 → L[i]? = some u → Op.bytesLess u.1.data.toList x.data.toList = true) := Lib.hid (fun i v hi hv => by
          rcases Nat.lt_or_ge i k with g | g
          · exact hah.out i v g hv
          · obtain rfl : i = k := by omega
            rw [HU.out] at hv; obtain rfl := Option.some.inj hv; exact hq)
        rw [hq] at hbl
        clear hq hah HU c1
        go_wp2_with fail
        go_round
        case rel => exact ⟨k + 1, by omega, by go_num, HN⟩
        case measure => simp [intOf]; omega
      case' false =>
        have HAT : Hid (posP x L = k) := Lib.hid (posP_is hah.out (by have := HL.out; omega) (fun v hv => by rw [HU.out] at hv; obtain rfl := Option.some.inj hv; exact hq))
        rw [hq] at hbl
        clear hq hah
        by_cases he : u.1 = x
        case' pos =>
          have heq : (u.1.toList == x.toList) = true := by rw [he]; simp
          by_cases he2 : u.2 = y
          · have HSAME : Hid (putP L (x, y) = some L) := Lib.hid (putP_same (p := (x, y)) HAT.out HU.out he he2)
            have heq2 : (u.2.toList == y.toList) = true := by rw [he2]; simp
            clear he he2 HU HAT
            go_wp2_with fail
            go_quiet (fail)
            go_wp2_with fail
            go_ret2
            exact ⟨g, n, c, true, rfl, fun _ => ⟨L, HSAME.out, H.out, HL.out⟩, (fun e => by cases e), below_drewN (Below.refl _ _) _⟩
          · have HOTHER : Hid (putP L (x, y) = none) := Lib.hid (putP_other (p := (x, y)) HAT.out HU.out he he2)
            have heq2 : (u.2.toList == y.toList) = false := bl_eqn he2
            clear he he2 HU HAT
            go_wp2_with fail
            go_quiet (fail)
            go_wp2_with fail
            go_ret2
            exact ⟨g, n, c, false, rfl, (fun e => by cases e), fun _ => HOTHER.out, below_drewN (Below.refl _ _) _⟩
        case' neg =>
          have HPUT : Hid (putP L (x, y) = some ((L.take k ++ [(x, y)]) ++ L.drop k)) := Lib.hid (putP_new (p := (x, y)) HAT.out (fun q hq => by rw [HU.out] at hq; obtain rfl := Option.some.inj hq; exact he))
          have heq : (u.1.toList == x.toList) = false := bl_eqn he
          clear he HU HAT
    case' neg =>
      have HPUT : Hid (putP L (x, y) = some ((L.take k ++ [(x, y)]) ++ L.drop k)) := Lib.hid (putP_new (p := (x, y)) (posP_is hah.out (by have := HL.out; omega) (fun v hv => by have := (List.getElem?_eq_some_iff.1 hv).1; have := HL.out; omega)) (fun q hq => by have := (List.getElem?_eq_some_iff.1 hq).1; have := HL.out; omega))
      clear hah
    all_goals
      have O0 : OwnP w.heap.size (w.alloc (.cells #[] 86)) (.slice (some ⟨w.heap.size, 0, none⟩) 0 0) [] := World.ownsRow_lit (size := 2) (e := 86) w #[] 0 (Nat.le_refl _) (by decide) rfl
      have BA := (Below.refl w.heap.size w).alloc (Nat.le_refl _) (.cells #[] 86)
      have HO := Lib.hid O0
      have hlk : (L.take k).length = k := by rw [List.length_take, HL.out]; omega
      obtain ⟨tk, htk⟩ : ∃ l, L.take k = l := ⟨_, rfl⟩
      rw [htk] at hlk
      have HTK := Lib.hid htk
      have HLK := Lib.hid hlk
      have hld : (L.drop k).length = n - k := by rw [List.length_drop, HL.out]
      obtain ⟨td, htd⟩ : ∃ l, L.drop k = l := ⟨_, rfl⟩
      rw [htd] at hld
      have HTD := Lib.hid htd
      have HLD := Lib.hid hld
      have HSP : Hid (flatP L = flatP tk ++ flatP td) := Lib.hid (by rw [← htk, ← htd]; exact flatP_split L k)
      have HCA : Hid (∀ (j : Nat) (u : Value), (flatP tk)[j]? = some u → (w.alloc (.cells #[] 86)).cell? ((⟨g, 0, none⟩ : Addr).add j) = some u) := Lib.hid (fun j u hj => by
        rw [add_plain, Nat.zero_add, BA.cell (p := ⟨g, j, none⟩) hgw]
        refine HC.out j u ?_
        rw [HSP.out, List.getElem?_append_left (List.getElem?_eq_some_iff.1 hj).1]
        exact hj)
      clear htk hlk htd hld O0
      go_wp2_with (at_builtin; refine wpList_append_own _ rfl _ _ 24 rfl w.heap.size 86 i0 (.agg #[.string ⟨#[]⟩, .string ⟨#[]⟩]) 2 32 Try.underlying24 hi hz0 hz1 hz2 rfl (by decide) _ _ _ rfl HO.out ⟨g, 0, none⟩ k _ (flatP tk) rfl (by rw [flatP_len, HLK.out]) HCA.out (flatP_one tk) ?h63a ?h48a ?hbsa ?_)
      try (case h63a => first | (rw [List.length_nil]; unfold maxLen; omega) | (unfold maxLen; omega))
      try (case h48a => first | (rw [List.length_nil]; omega) | omega)
      try (case hbsa => first | omega | (simp only [World.size_alloc]; omega))
      intro v1 w1 hown1 hg1 _
      have O1 : OwnP w.heap.size w1 v1 tk := by unfold OwnP; rw [HLK.out]; simpa [flatP] using hown1
      have B1 := BA.grown hg1 BA.size (fun j hj => by simp [Value.ownBlock] at hj; omega)
      have HO1 := Lib.hid O1
      have hne1 := fun j hj => (World.ownsRow.lt O1 j hj).1
      have B1a := B1.alloc B1.size (.cells #[.string x, .string y] 86)
      have O1a := Lib.hid (World.ownsRow.alloc HO1.out (.cells #[.string x, .string y] 86))
      have HLK2 := HLK
      clear hown1 hg1 HO HCA O1 BA
      go_wp2_with (at_builtin; refine wpList_append_own _ rfl _ _ 24 rfl w.heap.size 86 i0 (.agg #[.string ⟨#[]⟩, .string ⟨#[]⟩]) 2 32 Try.underlying24 hi hz0 hz1 hz2 rfl (by decide) _ _ _ rfl O1a.out ⟨w1.heap.size, 0, none⟩ 1 _ [.string x, .string y] rfl rfl two_cell (by intro u hu; simp at hu; rcases hu with rfl | rfl <;> rfl) ?h63b ?h48b ?hbsb ?_)
      try (case h63b => first | (rw [HLK2.out]; unfold maxLen; omega) | (unfold maxLen; omega))
      try (case h48b => first | (rw [HLK2.out]; omega) | omega)
      try (case hbsb => first | exact B1a.size | omega | (simp only [World.size_alloc]; omega))
      intro v2 w2 hown2 hg2 _
      have O2 : OwnP w.heap.size w2 v2 (tk ++ [(x, y)]) := ownP_add (p := (x, y)) rfl hown2
      have B2 := B1a.grown hg2 B1a.size (fun j hj => by have := hne1 j hj; omega)
      have hne2 := fun j hj => (World.ownsRow.lt O2 j hj).1
      have HCC : Hid (∀ (j : Nat) (u : Value), (flatP td)[j]? = some u → w2.cell? ⟨g, k * 2 + j, none⟩ = some u) := Lib.hid (fun j u hj => by
        rw [B2.cell (p := ⟨g, k * 2 + j, none⟩) hgw]
        refine HC.out (k * 2 + j) u ?_
        rw [HSP.out, List.getElem?_append_right (by rw [flatP_len, HLK.out]; omega), flatP_len, HLK.out, Nat.add_sub_cancel_left]
        exact hj)
      have HO2 := Lib.hid O2
      have HLP : Hid ((tk ++ [(x, y)]).length = k + 1) := Lib.hid (by rw [List.length_append, HLK2.out]; rfl)
      obtain ⟨pf, hpf⟩ : ∃ l, tk ++ [(x, y)] = l := ⟨_, rfl⟩
      rw [hpf] at HO2 HLP
      have HPF := Lib.hid hpf
      clear hown2 hg2 O1a B1a O2 HO1 B1 hpf
      by_cases hcq : c = k
      · have HTD0 : Hid (td = []) := Lib.hid (List.length_eq_zero_iff.1 (by rw [HLD.out]; omega))
        go_wp2_with (at_builtin; refine wpList_append_own _ rfl _ _ 24 rfl w.heap.size 86 i0 (.agg #[.string ⟨#[]⟩, .string ⟨#[]⟩]) 2 32 Try.underlying24 hi hz0 hz1 hz2 rfl (by decide) _ _ _ rfl HO2.out _ (n - k) _ (flatP td) rfl (by rw [flatP_len, HLD.out]) ?hcl (flatP_one td) ?h63c ?h48c ?hbsc ?_)
        case hcl => intro j u hj; rw [HTD0.out] at hj; simp [flatP] at hj
        try (case h63c => first | (rw [HLP.out]; unfold maxLen; omega) | (unfold maxLen; omega))
        try (case h48c => first | (rw [HLP.out]; omega) | omega)
        try (case hbsc => first | exact B2.size | omega | (simp only [World.size_alloc]; omega))
        intro v3 w3 hown3 hg3 _
        have O3 : OwnP w.heap.size w3 v3 (pf ++ td) := by unfold OwnP; rw [List.length_append, HLD.out, HLP.out, flatP_append]; rw [HLP.out] at hown3; exact hown3
        have B3 := B2.grown hg3 B2.size (fun j hj => by have := hne2 j hj; omega)
        have hl3 : (pf ++ td).length = n + 1 := by rw [List.length_append, HLP.out, HLD.out]; omega
        obtain ⟨g3, c3, rfl⟩ := ownP_some O3 (by omega)
        have O4 := ownP_lower O3 hB
        rw [hl3] at O4 ⊢
        have HR : Hid (∃ h, putP L (x, y) = some h ∧ OwnP B w3 (.slice (some ⟨g3, 0, none⟩) (n + 1) c3) h ∧ h.length = n + 1) := Lib.hid ⟨pf ++ td, by rw [HPUT.out, ← HPF.out, HTK.out, HTD.out], O4, hl3⟩
        clear hown3 hg3 O3 O4 hl3
        go_wp2_with fail
        go_ret2
        exact ⟨g3, n + 1, c3, true, rfl, fun _ => HR.out, (fun e => by cases e), B3⟩
      · go_wp2_with (at_builtin; refine wpList_append_own _ rfl _ _ 24 rfl w.heap.size 86 i0 (.agg #[.string ⟨#[]⟩, .string ⟨#[]⟩]) 2 32 Try.underlying24 hi hz0 hz1 hz2 rfl (by decide) _ _ _ rfl HO2.out _ (n - k) _ (flatP td) rfl (by rw [flatP_len, HLD.out]) ?hcl (flatP_one td) ?h63c ?h48c ?hbsc ?_)
        case hcl => intro j u hj; rw [add_plain]; first | exact HCC.out j u hj | (simpa using HCC.out j u hj)
        try (case h63c => first | (rw [HLP.out]; unfold maxLen; omega) | (unfold maxLen; omega))
        try (case h48c => first | (rw [HLP.out]; omega) | omega)
        try (case hbsc => first | exact B2.size | omega | (simp only [World.size_alloc]; omega))
        intro v3 w3 hown3 hg3 _
        have O3 : OwnP w.heap.size w3 v3 (pf ++ td) := by unfold OwnP; rw [List.length_append, HLD.out, HLP.out, flatP_append]; rw [HLP.out] at hown3; exact hown3
        have B3 := B2.grown hg3 B2.size (fun j hj => by have := hne2 j hj; omega)
        have hl3 : (pf ++ td).length = n + 1 := by rw [List.length_append, HLP.out, HLD.out]; omega
        obtain ⟨g3, c3, rfl⟩ := ownP_some O3 (by omega)
        have O4 := ownP_lower O3 hB
        rw [hl3] at O4 ⊢
        have HR : Hid (∃ h, putP L (x, y) = some h ∧ OwnP B w3 (.slice (some ⟨g3, 0, none⟩) (n + 1) c3) h ∧ h.length = n + 1) := Lib.hid ⟨pf ++ td, by rw [HPUT.out, ← HPF.out, HTK.out, HTD.out], O4, hl3⟩
        clear hown3 hg3 O3 O4 hl3
        go_wp2_with fail
        go_ret2
        exact ⟨g3, n + 1, c3, true, rfl, fun _ => HR.out, (fun e => by cases e), B3⟩
end Go.Proofs.Ytegjbfbmhlaelaa
