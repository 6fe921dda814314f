/- The variables of patterns: the specification's way. -/
import Derived.Test.YtapcbhpkbdlinabVarsI
import Derived.StillTailTactics
namespace Go.Proofs.Ytapcbhpkbdlinab
open Go.RowKit Go.WideShapes Go.Maps
theorem ownS_some {B : Nat} {w : World} {v : Value} {ts : List ByteArray} (h : OwnS B w v ts) (h0 : 0 < ts.length) : ∃ g c, v = .slice (some ⟨g, 0, none⟩) ts.length c := by
  rcases h.2 with ⟨_, e⟩ | ⟨g, c, cur, rfl, _⟩
  · omega
  · exact ⟨g, c, rfl⟩
set_option maxRecDepth 100000 in
set_option maxHeartbeats 3200000 in
theorem specPut1 (B g n c : Nat) (L : List Txt) (x : ByteArray) (w : World) (h : OwnS B w (.slice (some ⟨g, 0, none⟩) n c) (L.map bs)) (hn : L.length = n) (hl : n ≤ 1048576) (hB : B ≤ w.heap.size) :
    Calls Try.prog 42 #[.slice (some ⟨g, 0, none⟩) n c, .string x] w fun e w' => ∃ g' n' c', e = .returned (.slice (some ⟨g', 0, none⟩) n' c') ∧ OwnS B w' (.slice (some ⟨g', 0, none⟩) n' c') ((putS L x.data.toList).map bs) ∧ (putS L x.data.toList).length = n' ∧ Below w.heap.size w w' := by
  obtain ⟨i0, hi, hz0, hz1, hz2⟩ := info_parts infoStr
  have hgw : g < w.heap.size := (World.ownsRow.lt h g (by simp [Value.ownBlock])).2
  have hnc : n ≤ c := by
    rcases h.2 with ⟨e, _⟩ | ⟨_, _, _, e, _, _, h1, _⟩
    · cases e
    · cases e; rw [List.length_map, hn] at h1; exact h1
  have HC : Hid (∀ (j : Nat) (u : Value), ((L.map bs).map strV)[j]? = some u → w.cell? ⟨g, j, none⟩ = some u) := Lib.hid (fun j u hj => by
    have hjl := (List.getElem?_eq_some_iff.1 hj).1
    unfold OwnS at h
    rw [List.length_map, hn] at h
    rw [World.ownsRow.cellAt h j (by simp at hjl; omega)]; exact hj)
  have HL := Lib.hid hn
  have H := Lib.hid h
  clear h hn
  go_enter Try.func42, Try.ntmps42
  go_wp2_with fail
  go_loop [5] (fun i => ∃ k : Nat, k ≤ n ∧ i = .int .i64 k ∧ Hid (∀ i u, i < k → L[i]? = some u → lessS u x.data.toList = true)) (fun i => n - (intOf i).toNat)
  case atStart => exact ⟨0, Nat.zero_le _, rfl, Lib.hid (fun i u hi => by omega)⟩
  case round =>
    obtain ⟨k, hk, rfl, hah⟩ := hrel
    have hk6 : (0 : Int) ≤ (k : Int) := by omega
    by_cases hlt : k < n
    case' pos =>
      have hu : L[k]? = some (L[k]'(by have := HL.out; omega)) := List.getElem?_eq_getElem _
      have hc := HC.out k (.string (bs (L[k]'(by have := HL.out; omega)))) (by rw [List.getElem?_map, List.getElem?_map, hu]; rfl)
      generalize L[k]'(by have := HL.out; omega) = u at hu hc
      have hk7 : (k : Int) < (n : Int) := by omega
      have hbl : Op.bytesLess (bs u).toList x.toList = lessS u x.data.toList := by unfold lessS; rw [bs_list, ByteArray.toList_eq]
      have HBE : Hid ((bs u).toList = u) := Lib.hid (bs_list u)
      obtain ⟨sb, hsb⟩ : ∃ sb, bs u = sb := ⟨_, rfl⟩
      rw [hsb] at hc hbl HBE
      have HSB := Lib.hid hsb
      have HU := Lib.hid hu
      clear hsb hu
      cases hq : lessS u x.data.toList
      case' true =>
        have HN : Hid (∀ i u, i < k + 1 → L[i]? = some u → lessS u x.data.toList = true) := Lib.hid (fun i v hi hv => by
          rcases Nat.lt_or_ge i k with g | g
          · exact hah.out i v g hv
          · obtain rfl : i = k := by omega
            rw [HU.out] at hv; obtain rfl := Option.some.inj hv; exact hq)
        rw [hq] at hbl
        clear hq hah HU
        go_wp2_with fail
        go_round
        case rel => exact ⟨k + 1, by omega, by go_num, HN⟩
        case measure => simp [intOf]; omega
      case' false =>
        have HAT : Hid (atS x.data.toList L = k) := Lib.hid (atS_is hah.out (by have := HL.out; omega) (fun v hv => by rw [HU.out] at hv; obtain rfl := Option.some.inj hv; exact hq))
        rw [hq] at hbl
        clear hq hah
        by_cases he : u = x.data.toList
        case' pos =>
          have HSAME : Hid (putS L x.data.toList = L) := Lib.hid (putS_same HAT.out (by rw [HU.out, he]))
          have heq : (sb.toList == x.toList) = true := by rw [HBE.out, he, ByteArray.toList_eq]; simp
          clear he HU HAT HBE HSB
          go_wp2_with fail
          go_ret
          exact ⟨g, n, c, rfl, by rw [HSAME.out]; exact H.out, by rw [HSAME.out]; exact HL.out, Below.refl _ _⟩
        case' neg =>
          have HPUT : Hid (putS L x.data.toList = (L.take k ++ [x.data.toList]) ++ L.drop k) := Lib.hid (putS_more HAT.out (by rw [HU.out]; exact fun e => he (Option.some.inj e)))
          have heq : (sb.toList == x.toList) = false := by rw [HBE.out, beq_eq_false_iff_ne, ByteArray.toList_eq]; exact he
          clear he HU HAT HBE HSB
    case' neg =>
      have HPUT : Hid (putS L x.data.toList = (L.take k ++ [x.data.toList]) ++ L.drop k) := Lib.hid (putS_more (atS_is hah.out (by have := HL.out; omega) (fun v hv => by have := (List.getElem?_eq_some_iff.1 hv).1; have := HL.out; omega)) (fun e => by have := (List.getElem?_eq_some_iff.1 e).1; have := HL.out; omega))
      clear hah
    all_goals
      have O0 : OwnS w.heap.size (w.alloc (.cells #[] 9)) (.slice (some ⟨w.heap.size, 0, none⟩) 0 0) [] := World.ownsRow_lit (size := 1) (e := 9) w #[] 0 (Nat.le_refl _) (by decide) rfl
      have BA := (Below.refl w.heap.size w).alloc (Nat.le_refl _) (.cells #[] 9)
      have HO := Lib.hid O0
      have hlk : (L.take k).length = k := by rw [List.length_take, HL.out]; omega
      obtain ⟨tk, htk⟩ : ∃ l, L.take k = l := ⟨_, rfl⟩
      rw [htk] at hlk
      have HTK := Lib.hid htk
      have HLK := Lib.hid hlk
      obtain ⟨tkb, htkb⟩ : ∃ l, tk.map bs = l := ⟨_, rfl⟩
      have HTKB := Lib.hid htkb
      have HLKB : Hid (tkb.length = k) := Lib.hid (by rw [← htkb, List.length_map, hlk])
      have hld : (L.drop k).length = n - k := by rw [List.length_drop, HL.out]
      obtain ⟨td, htd⟩ : ∃ l, L.drop k = l := ⟨_, rfl⟩
      rw [htd] at hld
      have HTD := Lib.hid htd
      have HLD := Lib.hid hld
      obtain ⟨tdb, htdb⟩ : ∃ l, td.map bs = l := ⟨_, rfl⟩
      have HTDB := Lib.hid htdb
      have HLDB : Hid (tdb.length = n - k) := Lib.hid (by rw [← htdb, List.length_map, hld])
      have HCA : Hid (∀ (j : Nat) (u : Value), (tkb.map strV)[j]? = some u → (w.alloc (.cells #[] 9)).cell? ((⟨g, 0, none⟩ : Addr).add j) = some u) := Lib.hid (fun j u hj => by
        rw [add_plain, Nat.zero_add, BA.cell (p := ⟨g, j, none⟩) hgw]
        refine HC.out j u ?_
        rw [← HTKB.out, ← HTK.out, List.map_take, List.map_take] at hj
        exact (List.getElem?_take_of_lt (by have := (List.getElem?_eq_some_iff.1 hj).1; simp at this; omega)).symm.trans hj)
      clear htk hlk htd hld O0 htkb htdb
      go_wp2_with (at_builtin; refine wpList_append_own _ rfl _ _ 37 rfl w.heap.size 9 i0 (.string ⟨#[]⟩) 1 16 Try.underlying37 hi hz0 hz1 hz2 rfl (by decide) _ _ _ rfl HO.out ⟨g, 0, none⟩ k _ (tkb.map strV) rfl (by rw [List.length_map, HLKB.out, Nat.mul_one]) HCA.out (by intro x hx; simp at hx; obtain ⟨y, _, rfl⟩ := hx; rfl) ?h63a ?h48a ?hbsa ?_)
      try (case h63a => first | (rw [List.length_nil]; unfold maxLen; omega) | (unfold maxLen; omega))
      try (case h48a => first | (rw [List.length_nil]; omega) | omega)
      try (case hbsa => first | exact B2.size | exact B1a.size | omega | (simp only [World.size_alloc]; omega))
      intro v1 w1 hown1 hg1 _
      have O1 : OwnS w.heap.size w1 v1 tkb := by unfold OwnS; rw [HLKB.out]; simpa using hown1
      have B1 := BA.grown hg1 BA.size (fun j hj => by simp [Value.ownBlock] at hj; omega)
      have HO1 := Lib.hid O1
      have hne1 := fun j hj => (World.ownsRow.lt O1 j hj).1
      have HCB : Hid (∀ (j : Nat) (u : Value), [Value.string x][j]? = some u → (w1.alloc (.cells #[.string x] 9)).cell? ((⟨w1.heap.size, 0, none⟩ : Addr).add j) = some u) := Lib.hid one_cell
      have B1a := B1.alloc B1.size (.cells #[.string x] 9)
      have O1a := Lib.hid (World.ownsRow.alloc HO1.out (.cells #[.string x] 9))
      have HLK2 := HLKB
      clear hown1 hg1 HO HCA O1 BA
      go_wp2_with (at_builtin; refine wpList_append_own _ rfl _ _ 37 rfl w.heap.size 9 i0 (.string ⟨#[]⟩) 1 16 Try.underlying37 hi hz0 hz1 hz2 rfl (by decide) _ _ _ rfl O1a.out ⟨w1.heap.size, 0, none⟩ 1 _ [.string x] rfl rfl HCB.out (by intro y hy; simp at hy; subst hy; rfl) ?h63b ?h48b ?hbsb ?_)
      try (case h63b => first | (rw [HLK2.out]; unfold maxLen; omega) | (unfold maxLen; omega))
      try (case h48b => first | (rw [HLK2.out]; omega) | omega)
      try (case hbsb => first | exact B2.size | exact B1a.size | omega | (simp only [World.size_alloc]; omega))
      intro v2 w2 hown2 hg2 _
      have O2 : OwnS w.heap.size w2 v2 (tkb ++ [x]) := ownS_snoc hown2
      have B2 := B1a.grown hg2 B1a.size (fun j hj => by have := hne1 j hj; omega)
      have hne2 := fun j hj => (World.ownsRow.lt O2 j hj).1
      have HCC : Hid (∀ (j : Nat) (u : Value), (tdb.map strV)[j]? = some u → w2.cell? ⟨g, k + j, none⟩ = some u) := Lib.hid (fun j u hj => by
        rw [B2.cell (p := ⟨g, k + j, none⟩) hgw]
        refine HC.out (k + j) u ?_
        rw [← HTDB.out, ← HTD.out, List.map_drop, List.map_drop, List.getElem?_drop] at hj
        exact hj)
      have HO2 := Lib.hid O2
      have HLP : Hid ((tkb ++ [x]).length = k + 1) := Lib.hid (by rw [List.length_append, HLK2.out]; rfl)
      obtain ⟨pf, hpf⟩ : ∃ l, tkb ++ [x] = l := ⟨_, rfl⟩
      rw [hpf] at HO2 HLP
      have HPF := Lib.hid hpf
      clear hown2 hg2 O1a HCB B1a O2 HO1 B1 hpf
      by_cases hcq : c = k
      · have HTD0 : Hid (tdb = []) := Lib.hid (List.length_eq_zero_iff.1 (by rw [HLDB.out]; omega))
        go_wp2_with (at_builtin; refine wpList_append_own _ rfl _ _ 37 rfl w.heap.size 9 i0 (.string ⟨#[]⟩) 1 16 Try.underlying37 hi hz0 hz1 hz2 rfl (by decide) _ _ _ rfl HO2.out _ (n - k) _ (tdb.map strV) rfl (by rw [List.length_map, HLDB.out, Nat.mul_one]) ?hcl (by intro x hx; simp at hx; obtain ⟨y, _, rfl⟩ := hx; rfl) ?h63c ?h48c ?hbsc ?_)
        case hcl => intro j u hj; rw [HTD0.out] at hj; simp at hj
        try (case h63c => first | (rw [HLP.out]; unfold maxLen; omega) | (unfold maxLen; omega))
        try (case h48c => first | (rw [HLP.out]; omega) | omega)
        try (case hbsc => first | exact B2.size | exact B1a.size | omega | (simp only [World.size_alloc]; omega))
        intro v3 w3 hown3 hg3 _
        have O3 : OwnS w.heap.size w3 v3 (pf ++ tdb) := by unfold OwnS; rw [List.length_append, HLDB.out, List.map_append]; exact hown3
        have B3 := B2.grown hg3 B2.size (fun j hj => by have := hne2 j hj; omega)
        have hl3 : (pf ++ tdb).length = n + 1 := by rw [List.length_append, HLP.out, HLDB.out]; omega
        obtain ⟨g3, c3, rfl⟩ := ownS_some O3 (by omega)
        have HR : Hid (pf ++ tdb = (putS L x.data.toList).map bs) := Lib.hid (by rw [HPUT.out, ← HPF.out, HTK.out, HTD.out, ← HTKB.out, ← HTDB.out]; simp [bs_of])
        have O4 := ownS_base O3 hB
        rw [hl3] at O4 ⊢
        have HO4 : Hid (OwnS B w3 (.slice (some ⟨g3, 0, none⟩) (n + 1) c3) ((putS L x.data.toList).map bs)) := Lib.hid (by rw [← HR.out]; exact O4)
        have HL3 : Hid ((putS L x.data.toList).length = n + 1) := Lib.hid (by have := congrArg List.length HR.out; rw [hl3, List.length_map] at this; exact this.symm)
        clear hown3 hg3 O3 O4 hl3
        go_wp2_with fail
        go_ret
        exact ⟨g3, n + 1, c3, rfl, HO4.out, HL3.out, B3⟩
      · go_wp2_with (at_builtin; refine wpList_append_own _ rfl _ _ 37 rfl w.heap.size 9 i0 (.string ⟨#[]⟩) 1 16 Try.underlying37 hi hz0 hz1 hz2 rfl (by decide) _ _ _ rfl HO2.out _ (n - k) _ (tdb.map strV) rfl (by rw [List.length_map, HLDB.out, Nat.mul_one]) ?hcl (by intro x hx; simp at hx; obtain ⟨y, _, rfl⟩ := hx; rfl) ?h63c ?h48c ?hbsc ?_)
        case hcl => intro j u hj; rw [add_plain]; first | exact HCC.out j u hj | (simpa using HCC.out j u hj)
        try (case h63c => first | (rw [HLP.out]; unfold maxLen; omega) | (unfold maxLen; omega))
        try (case h48c => first | (rw [HLP.out]; omega) | omega)
        try (case hbsc => first | exact B2.size | exact B1a.size | omega | (simp only [World.size_alloc]; omega))
        intro v3 w3 hown3 hg3 _
        have O3 : OwnS w.heap.size w3 v3 (pf ++ tdb) := by unfold OwnS; rw [List.length_append, HLDB.out, List.map_append]; exact hown3
        have B3 := B2.grown hg3 B2.size (fun j hj => by have := hne2 j hj; omega)
        have hl3 : (pf ++ tdb).length = n + 1 := by rw [List.length_append, HLP.out, HLDB.out]; omega
        obtain ⟨g3, c3, rfl⟩ := ownS_some O3 (by omega)
        have HR : Hid (pf ++ tdb = (putS L x.data.toList).map bs) := Lib.hid (by rw [HPUT.out, ← HPF.out, HTK.out, HTD.out, ← HTKB.out, ← HTDB.out]; simp [bs_of])
        have O4 := ownS_base O3 hB
        rw [hl3] at O4 ⊢
        have HO4 : Hid (OwnS B w3 (.slice (some ⟨g3, 0, none⟩) (n + 1) c3) ((putS L x.data.toList).map bs)) := Lib.hid (by rw [← HR.out]; exact O4)
        have HL3 : Hid ((putS L x.data.toList).length = n + 1) := Lib.hid (by have := congrArg List.length HR.out; rw [hl3, List.length_map] at this; exact this.symm)
        clear hown3 hg3 O3 O4 hl3
        go_wp2_with fail
        go_ret
        exact ⟨g3, n + 1, c3, rfl, HO4.out, HL3.out, B3⟩
theorem box_word {w : World} {g : Nat} {s p o : ByteArray} {T : TypeId} (h : Box w g (.string s) (.string p) (.string o) T) (j : Nat) (x : ByteArray) (hx : (wordsT (s, p, o))[j]? = some x) : w.cell? ⟨g, j, none⟩ = some (.string x) := by
  obtain ⟨c0, c1, c2⟩ := h.cells
  have hj : j = 0 ∨ j = 1 ∨ j = 2 := by
    have := (List.getElem?_eq_some_iff.1 hx).1
    simp only [wordsT, List.length_cons, List.length_nil] at this; omega
  rcases hj with rfl | rfl | rfl
  · obtain rfl : s = x := by simpa [wordsT] using hx
    exact c0
  · obtain rfl : p = x := by simpa [wordsT] using hx
    exact c1
  · obtain rfl : o = x := by simpa [wordsT] using hx
    exact c2
theorem word_small {s p o : ByteArray} (h : s.size ≤ 2097152 ∧ p.size ≤ 2097152 ∧ o.size ≤ 2097152) (j : Nat) (x : ByteArray) (hx : (wordsT (s, p, o))[j]? = some x) : x.size ≤ 2097152 := by
  obtain ⟨q1, q2, q3⟩ := h
  have hj : j = 0 ∨ j = 1 ∨ j = 2 := by
    have := (List.getElem?_eq_some_iff.1 hx).1
    simp only [wordsT, List.length_cons, List.length_nil] at this; omega
  rcases hj with rfl | rfl | rfl
  · obtain rfl : s = x := by simpa [wordsT] using hx
    exact q1
  · obtain rfl : p = x := by simpa [wordsT] using hx
    exact q2
  · obtain rfl : o = x := by simpa [wordsT] using hx
    exact q3
def allVars (ts : List Tri3) : List Txt := putAllS [] (varWords ts)
theorem putAllS_app (g l m : List Txt) : putAllS g (l ++ m) = putAllS (putAllS g l) m := by unfold putAllS; rw [List.foldl_append]
set_option maxRecDepth 100000 in
set_option maxHeartbeats 3200000 in
theorem specVars (a : Option Addr) (len cap : Nat) (ts : List Tri3) (w : World) (h : IsTris w a len cap ts) (hsm : Sm ts) (hlen : len ≤ 1000) :
    Calls Try.prog 67 #[.slice a len cap] w fun e w' => ∃ g n c, e = .returned (.slice (some ⟨g, 0, none⟩) n c) ∧ OwnS w.heap.size w' (.slice (some ⟨g, 0, none⟩) n c) ((allVars ts).map bs) ∧ (allVars ts).length = n ∧ Below w.heap.size w w' := by
  have HL := Lib.hid h.len
  have HM := Lib.hid hsm
  have H := Lib.hid h
  have B0 := (Below.refl w.heap.size w).alloc (Nat.le_refl _) (.cells #[] 9)
  have O0 : OwnS w.heap.size (w.alloc (.cells #[] 9)) (.slice (some ⟨w.heap.size, 0, none⟩) 0 0) [] := World.ownsRow_lit (size := 1) (e := 9) w #[] 0 (Nat.le_refl _) (by decide) rfl
  clear h hsm
  go_enter Try.func67, Try.ntmps67
  go_wp2_with fail
  go_loopw [3, 4] (fun v i wr => ∃ k g n c : Nat, k ≤ len ∧ i = .int .i64 k ∧ v = .slice (some ⟨g, 0, none⟩) n c ∧ n ≤ 3 * k ∧ Hid (OwnS w.heap.size wr (.slice (some ⟨g, 0, none⟩) n c) ((allVars (ts.take k)).map bs) ∧ (allVars (ts.take k)).length = n) ∧ Below w.heap.size w wr) (fun _ i _ => len - (intOf i).toNat)
  case atStart => exact ⟨0, w.heap.size, 0, 0, Nat.zero_le _, rfl, rfl, Nat.le_refl _, Lib.hid ⟨by simpa [allVars, varWords, putAllS] using O0, by simp [allVars, varWords, putAllS]⟩, B0⟩
  case round =>
    obtain ⟨k, g, n, c, hk, rfl, rfl, hn, hown, hnx⟩ := hrel
    clear O0 B0
    by_cases hlt : k < len
    · obtain ⟨b, off, rfl, hb, _, _, hts, hcs⟩ := H.out.cells (by omega)
      have ht : ts[k]? = some (ts[k]'(by omega)) := List.getElem?_eq_getElem (by omega)
      obtain ⟨d0, d1, d2, m0, m1, m2⟩ := hcs k _ ht
      clear m0 m1 m2
      have HS : Hid (allVars (ts.take (k + 1)) = putAllS (allVars (ts.take k)) (varsIn (wordsT (ts[k]'(by omega))))) := Lib.hid (by unfold allVars; rw [List.take_succ_eq_append_getElem (by omega), varWords_snoc, putAllS_app])
      have hsm := HM.out (ts[k]'(by omega)) (List.getElem_mem _)
      rw [← hnx.cell (p := ⟨b, _, none⟩) hb, ← World.cell?_drew] at d0 d1 d2
      generalize ts[k]'(by omega) = t at ht d0 d1 d2 HS hsm
      obtain ⟨s, p, o⟩ := t
      try simp only at d0 d1 d2
      have hk6 : (0 : Int) ≤ (k : Int) := by omega
      have hk7 : (k : Int) < (len : Int) := by omega
      have HX := Lib.hid (word_small hsm)
      obtain ⟨acc, hacc⟩ : ∃ l, allVars (ts.take k) = l := ⟨_, rfl⟩
      rw [hacc] at HS hown
      clear ht hts hcs hsm hacc
      go_wp2_with fail
      go_still_tail 15, (by kernel_rfl)
      change wpList _ _ _ _ _ wr.drew
      have BD : Below w.heap.size w wr.drew := hnx.drew
      have OD : Hid (OwnS w.heap.size wr.drew (.slice (some ⟨g, 0, none⟩) n c) (acc.map bs) ∧ acc.length = n) := Lib.hid ⟨World.ownsRow.drew hown.out.1, hown.out.2⟩
      clear hown hnx d0 d1 d2
      generalize wr.drew = wq at BD OD ⊢
      have T2 := Lib.hid (Box.new wq (.string s) (.string p) (.string o) 9)
      have B2 := BD.alloc BD.size (.cells #[.string s, .string p, .string o] 9)
      have O2 : Hid (OwnS w.heap.size (wq.alloc (.cells #[.string s, .string p, .string o] 9)) (.slice (some ⟨g, 0, none⟩) n c) (acc.map bs) ∧ acc.length = n) := Lib.hid ⟨World.ownsRow.alloc OD.out.1 _, OD.out.2⟩
      clear BD OD
      obtain ⟨tb, htb⟩ : ∃ tb, wq.heap.size = tb := ⟨_, rfl⟩
      rw [htb] at T2
      obtain ⟨wd, hwd⟩ : ∃ l, wordsT (s, p, o) = l := ⟨_, rfl⟩
      have hwl : wd.length = 3 := by rw [← hwd]; rfl
      have HBW := Lib.hid (fun (W : World) (hb : Box W tb (.string s) (.string p) (.string o) 9) => box_word hb)
      rw [hwd] at HS HX
      have HWD := Lib.hid hwd
      clear hwd
      go_wp2_with fail
      try rw [htb]
      clear htb
      generalize wq.alloc (.cells #[.string s, .string p, .string o] 9) = w2 at T2 B2 O2 ⊢
      go_loopw [3, 6] (fun v i w3 => ∃ j g' n' c' : Nat, j ≤ 3 ∧ i = .int .i64 j ∧ v = .slice (some ⟨g', 0, none⟩) n' c' ∧ n' ≤ n + j ∧ Hid (OwnS w.heap.size w3 (.slice (some ⟨g', 0, none⟩) n' c') ((putAllS acc (varsIn (wd.take j))).map bs) ∧ (putAllS acc (varsIn (wd.take j))).length = n') ∧ Hid (Box w3 tb (.string s) (.string p) (.string o) 9) ∧ Below w.heap.size w w3) (fun _ i _ => 3 - (intOf i).toNat)
      case atStart => exact ⟨0, g, n, c, by omega, rfl, rfl, by omega, by simpa [varsIn, putAllS] using O2, T2, B2⟩
      case round =>
        obtain ⟨j, g', n', c', hj, rfl, rfl, hn', hown, htbx, hnx⟩ := hrel
        clear O2 T2 B2
        by_cases hlj : j < 3
        · have hxx : wd[j]? = some (wd[j]'(by omega)) := List.getElem?_eq_getElem (by omega)
          obtain ⟨x, hxe⟩ : ∃ x, wd[j]'(by omega) = x := ⟨_, rfl⟩
          have HT1 : Hid (varsIn (wd.take (j + 1)) = varsIn (wd.take j) ++ (if isVarK x.data.toList then [x.data.toList] else [])) := Lib.hid (by rw [List.take_succ_eq_append_getElem (by omega), hxe, varsIn_snoc])
          rw [hxe] at hxx
          have hx1 := HX.out j x hxx
          have hcx := HBW.out _ htbx.out j x (by rw [HWD.out]; exact hxx)
          have CV' := specKindOf x hx1
          have hj6 : (0 : Int) ≤ (j : Int) := by omega
          have hj7 : (j : Int) < 3 := by omega
          have HJX := Lib.hid hxx
          clear hxx hxe
          have EK : ((((kindL x.data.toList : Nat) : Int) == 4) = true ∧ isVarK x.data.toList = true) ∨ ((((kindL x.data.toList : Nat) : Int) == 4) = false ∧ isVarK x.data.toList = false) := by
            unfold isVarK
            simp only [beq_iff_eq, beq_eq_false_iff_ne, decide_eq_true_eq, decide_eq_false_iff_not]; omega
          generalize kindL x.data.toList = kk at CV' EK
          have CV := Lib.hid CV'
          clear CV'
          rcases EK with ⟨e1, e2⟩ | ⟨e1, e2⟩
          · rw [e2] at HT1
            have HPA : Hid (putAllS acc (varsIn (wd.take (j + 1))) = putS (putAllS acc (varsIn (wd.take j))) x.data.toList) := Lib.hid (by rw [HT1.out]; simp only [if_true]; rw [putAllS_snoc])
            clear e2 HT1
            go_wp2_with fail
            refine (CV.out _).mono ?_
            rintro e w4 ⟨rfl, hb4⟩
            have B4 := hnx.trans (hb4.mono hnx.size)
            have O4 := Lib.hid (And.intro (hown.out.1.kept hb4) hown.out.2)
            have T4 := Lib.hid (htbx.out.next hb4)
            have hcx2 := HBW.out _ T4.out j x (by rw [HWD.out]; exact HJX.out)
            have hsz : n' ≤ 1048576 := by omega
            have CP := Lib.hid (specPut1 w.heap.size g' n' c' (putAllS acc (varsIn (wd.take j))) x w4 O4.out.1 O4.out.2 hsz B4.size)
            have hpl := putS_len (putAllS acc (varsIn (wd.take j))) x.data.toList
            rw [O4.out.2] at hpl
            clear hb4 hnx htbx hown CV hcx
            go_wp2_with fail
            refine CP.out.mono ?_
            rintro e w5 ⟨g5, n5, c5, rfl, o5, hl5, hb5⟩
            rw [hl5] at hpl
            have B5 := B4.trans (hb5.mono B4.size)
            have T5 := Lib.hid (T4.out.next hb5)
            have O5 : Hid (OwnS w.heap.size w5 (.slice (some ⟨g5, 0, none⟩) n5 c5) ((putAllS acc (varsIn (wd.take (j + 1)))).map bs) ∧ (putAllS acc (varsIn (wd.take (j + 1)))).length = n5) := Lib.hid (by rw [HPA.out]; exact ⟨o5, hl5⟩)
            clear o5 hl5 hb5 B4 T4 O4 CP hcx2 HPA
            go_wp2_with fail
            go_roundw
            case rel => exact ⟨j + 1, g5, n5, c5, by omega, by go_num, rfl, by omega, O5, T5, B5⟩
            case measure => simp [intOf]; omega
          · rw [e2] at HT1
            have HPA : Hid (putAllS acc (varsIn (wd.take (j + 1))) = putAllS acc (varsIn (wd.take j))) := Lib.hid (by rw [HT1.out]; simp)
            clear e2 HT1
            go_wp2_with fail
            refine (CV.out _).mono ?_
            rintro e w4 ⟨rfl, hb4⟩
            have B4 := hnx.trans (hb4.mono hnx.size)
            have O4 : Hid (OwnS w.heap.size w4 (.slice (some ⟨g', 0, none⟩) n' c') ((putAllS acc (varsIn (wd.take (j + 1)))).map bs) ∧ (putAllS acc (varsIn (wd.take (j + 1)))).length = n') := Lib.hid (by rw [HPA.out]; exact ⟨hown.out.1.kept hb4, hown.out.2⟩)
            have T4 := Lib.hid (htbx.out.next hb4)
            clear hb4 hnx htbx hown CV hcx HPA
            go_wp2_with fail
            go_roundw
            case rel => exact ⟨j + 1, g', n', c', by omega, by go_num, rfl, by omega, O4, T4, B4⟩
            case measure => simp [intOf]; omega
        · obtain rfl : j = 3 := by omega
          have HN : Hid (OwnS w.heap.size wr (.slice (some ⟨g', 0, none⟩) n' c') ((allVars (ts.take (k + 1))).map bs) ∧ (allVars (ts.take (k + 1))).length = n') := Lib.hid (by
            have := hown.out
            rw [List.take_of_length_le (by omega)] at this
            rw [HS.out]; exact this)
          clear hown htbx
          go_wp2_with fail
          go_roundw
          case rel => exact ⟨k + 1, g', n', c', by omega, by go_num, rfl, by omega, HN, hnx⟩
          case measure => simp [intOf]; omega
    · obtain rfl : k = len := by omega
      have HN : Hid (OwnS w.heap.size wr (.slice (some ⟨g, 0, none⟩) n c) ((allVars ts).map bs) ∧ (allVars ts).length = n) := Lib.hid (by
        have := hown.out
        rwa [List.take_of_length_le (by rw [HL.out]; exact Nat.le_refl _)] at this)
      clear hown
      go_wp2_with fail
      go_ret
      exact ⟨g, n, c, rfl, HN.out.1, HN.out.2, hnx⟩
theorem varsT_is {ts : List Tri3} (h : bgpOk ts = true) : varsT ts = allVars ts := by unfold varsT allVars; rw [if_pos h]
end Go.Proofs.Ytapcbhpkbdlinab
