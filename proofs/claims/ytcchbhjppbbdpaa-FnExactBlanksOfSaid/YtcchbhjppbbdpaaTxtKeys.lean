/- The keys of a map of texts, sorted: a slice of the call's own. -/
import Derived.Test.YtcchbhjppbbdpaaStrs
import Derived.Test.YtcchbhjppbbdpaaIterL
import Derived.Sort.EveryDepth
import Derived.StillTailTactics
namespace Go.Proofs.Ytcchbhjppbbdpaa
open Go.RowKit Go.Maps Go.Sort Go.Shelf
theorem sortsTxt (m : Nat) : AnyZ.SortsIn Try.prog Try.sortedS_ren Fence.wide m :=
  ⟨fun blk off cap ss W hH hblk hsz => callsIn_wide.2 (AnyM.slices_Sort_string Try.sortS blk off cap ss W hH hblk hsz),
   fun p cap W => callsIn_wide.2 (AnyM.slices_Sort_string_none Try.sortS p cap W)⟩
theorem set_keys {H : Type} {w : World} {b n : Nat} {D : DataW H} {R : Value → Option (DataW H × List MemPlace)} {ts : List Txt} (hown : w.ownsMap Try.prog 9 R b n D) (hD : SetOfS D ts) : ts.Perm (strKeys D) :=
  Collected.perm (left := fun _ => false) ⟨hD.nodup, fun x => by have := hD.mem x; unfold litS at this; rw [this]; simp⟩ hown lawTxt Try.underlying9 (fun _ => rfl)
open Go.RowKit Go.WideShapes Go.Maps
theorem addAllS_nodup : ∀ (us ts : List Txt), ts.Nodup → (addAllS ts us).Nodup
  | [], ts, h => h
  | t :: r, ts, h => addAllS_nodup r (addS ts t) (by
    unfold addS
    split
    · exact h
    · rename_i hn
      exact List.nodup_append.2 ⟨h, by simp, fun a ha b hb => by simp at hb; subst hb; exact fun e => hn (e ▸ ha)⟩)
theorem sorted_words (l : List Txt) : (addAllS [] l).mergeSort leB = putAllS [] l :=
  mergeSort_is (addAllS_nodup l [] List.nodup_nil) (putAllS_rising List.Pairwise.nil) (fun u => by rw [addAllS_mem, putAllS_mem])
theorem putAllS_app (g l m : List Txt) : putAllS g (l ++ m) = putAllS (putAllS g l) m := by unfold putAllS; rw [List.foldl_append]
open Go.RowKit Go.WideShapes Go.Maps
theorem ownS_some {B : Nat} {w : World} {v : Value} {ts : List ByteArray} (h : OwnS B w v ts) (h0 : 0 < ts.length) : ∃ g c, v = .slice (some ⟨g, 0, none⟩) ts.length c := by
  rcases h.2 with ⟨_, e⟩ | ⟨g, c, cur, rfl, _⟩
  · omega
  · exact ⟨g, c, rfl⟩
set_option maxRecDepth 100000 in
set_option maxHeartbeats 3200000 in
theorem specPut1 (B g n c : Nat) (L : List Txt) (x : ByteArray) (w : World) (h : OwnS B w (.slice (some ⟨g, 0, none⟩) n c) (L.map bs)) (hn : L.length = n) (hl : n ≤ 1048576) (hB : B ≤ w.heap.size) :
    Calls Try.prog 27 #[.slice (some ⟨g, 0, none⟩) n c, .string x] w fun e w' => ∃ g' n' c', e = .returned (.slice (some ⟨g', 0, none⟩) n' c') ∧ OwnS B w' (.slice (some ⟨g', 0, none⟩) n' c') ((putS L x.data.toList).map bs) ∧ (putS L x.data.toList).length = n' ∧ Below w.heap.size w w' := by
  obtain ⟨i0, hi, hz0, hz1, hz2⟩ := info_parts infoStr
  have hgw : g < w.heap.size := (World.ownsRow.lt h g (by simp [Value.ownBlock])).2
  have hnc : n ≤ c := by
    rcases h.2 with ⟨e, _⟩ | ⟨_, _, _, e, _, _, h1, _⟩
    · cases e
    · cases e; rw [List.length_map, hn] at h1; exact h1
  have HC : Hid (∀ (j : Nat) (u : Value), ((L.map bs).map strV)[j]? = some u → w.cell? ⟨g, j, none⟩ = some u) := Lib.hid (fun j u hj => by
    have hjl := (List.getElem?_eq_some_iff.1 hj).1
    unfold OwnS at h
    rw [List.length_map, hn] at h
    rw [World.ownsRow.cellAt h j (by simp at hjl; omega)]; exact hj)
  have HL := Lib.hid hn
  have H := Lib.hid h
  clear h hn
  go_enter Try.func27, Try.ntmps27
  go_wp2_with fail
  go_loop [5] (fun i => ∃ k : Nat, k ≤ n ∧ i = .int .i64 k ∧ Hid (∀ i u, i < k → L[i]? = some u → lessS u x.data.toList = true)) (fun i => n - (intOf i).toNat)
  case atStart => exact ⟨0, Nat.zero_le _, rfl, Lib.hid (fun i u hi => by omega)⟩
  case round =>
    obtain ⟨k, hk, rfl, hah⟩ := hrel
    have hk6 : (0 : Int) ≤ (k : Int) := by omega
    by_cases hlt : k < n
    case' pos =>
      have hu : L[k]? = some (L[k]'(by have := HL.out; omega)) := List.getElem?_eq_getElem _
      have hc := HC.out k (.string (bs (L[k]'(by have := HL.out; omega)))) (by rw [List.getElem?_map, List.getElem?_map, hu]; rfl)
      generalize L[k]'(by have := HL.out; omega) = u at hu hc
      have hk7 : (k : Int) < (n : Int) := by omega
      have hbl : Op.bytesLess (bs u).toList x.toList = lessS u x.data.toList := by unfold lessS; rw [bs_list, ByteArray.toList_eq]
      have HBE : Hid ((bs u).toList = u) := Lib.hid (bs_list u)
      obtain ⟨sb, hsb⟩ : ∃ sb, bs u = sb := ⟨_, rfl⟩
      rw [hsb] at hc hbl HBE
      have HSB := Lib.hid hsb
      have HU := Lib.hid hu
      clear hsb hu
      cases hq : lessS u x.data.toList
      case' true =>
        have HN : Hid (∀ i u, i < k + 1 → L[i]? = some u → lessS u x.data.toList = true) := Lib.hid (fun i v hi hv => by
          rcases Nat.lt_or_ge i k with g | g
          · exact hah.out i v g hv
          · obtain rfl : i = k := by omega
            rw [HU.out] at hv; obtain rfl := Option.some.inj hv; exact hq)
        rw [hq] at hbl
        clear hq hah HU
        go_wp2_with fail
        go_round
        case rel => exact ⟨k + 1, by omega, by go_num, HN⟩
        case measure => simp [intOf]; omega
      case' false =>
        have HAT : Hid (atS x.data.toList L = k) := Lib.hid (atS_is hah.out (by have := HL.out; omega) (fun v hv => by rw [HU.out] at hv; obtain rfl := Option.some.inj hv; exact hq))
        rw [hq] at hbl
        clear hq hah
        by_cases he : u = x.data.toList
        case' pos =>
          have HSAME : Hid (putS L x.data.toList = L) := Lib.hid (putS_same HAT.out (by rw [HU.out, he]))
          have heq : (sb.toList == x.toList) = true := by rw [HBE.out, he, ByteArray.toList_eq]; simp
          clear he HU HAT HBE HSB
          go_wp2_with fail
          go_ret
          exact ⟨g, n, c, rfl, by rw [HSAME.out]; exact H.out, by rw [HSAME.out]; exact HL.out, Below.refl _ _⟩
        case' neg =>
          have HPUT : Hid (putS L x.data.toList = (L.take k ++ [x.data.toList]) ++ L.drop k) := Lib.hid (putS_more HAT.out (by rw [HU.out]; exact fun e => he (Option.some.inj e)))
          have heq : (sb.toList == x.toList) = false := by rw [HBE.out, beq_eq_false_iff_ne, ByteArray.toList_eq]; exact he
          clear he HU HAT HBE HSB
    case' neg =>
      have HPUT : Hid (putS L x.data.toList = (L.take k ++ [x.data.toList]) ++ L.drop k) := Lib.hid (putS_more (atS_is hah.out (by have := HL.out; omega) (fun v hv => by have := (List.getElem?_eq_some_iff.1 hv).1; have := HL.out; omega)) (fun e => by have := (List.getElem?_eq_some_iff.1 e).1; have := HL.out; omega))
      clear hah
    all_goals
      have O0 : OwnS w.heap.size (w.alloc (.cells #[] 9)) (.slice (some ⟨w.heap.size, 0, none⟩) 0 0) [] := World.ownsRow_lit (size := 1) (e := 9) w #[] 0 (Nat.le_refl _) (by decide) rfl
      have BA := (Below.refl w.heap.size w).alloc (Nat.le_refl _) (.cells #[] 9)
      have HO := Lib.hid O0
      have hlk : (L.take k).length = k := by rw [List.length_take, HL.out]; omega
      obtain ⟨tk, htk⟩ : ∃ l, L.take k = l := ⟨_, rfl⟩
      rw [htk] at hlk
      have HTK := Lib.hid htk
      have HLK := Lib.hid hlk
      obtain ⟨tkb, htkb⟩ : ∃ l, tk.map bs = l := ⟨_, rfl⟩
      have HTKB := Lib.hid htkb
      have HLKB : Hid (tkb.length = k) := Lib.hid (by rw [← htkb, List.length_map, hlk])
      have hld : (L.drop k).length = n - k := by rw [List.length_drop, HL.out]
      obtain ⟨td, htd⟩ : ∃ l, L.drop k = l := ⟨_, rfl⟩
      rw [htd] at hld
      have HTD := Lib.hid htd
      have HLD := Lib.hid hld
      obtain ⟨tdb, htdb⟩ : ∃ l, td.map bs = l := ⟨_, rfl⟩
      have HTDB := Lib.hid htdb
      have HLDB : Hid (tdb.length = n - k) := Lib.hid (by rw [← htdb, List.length_map, hld])
      have HCA : Hid (∀ (j : Nat) (u : Value), (tkb.map strV)[j]? = some u → (w.alloc (.cells #[] 9)).cell? ((⟨g, 0, none⟩ : Addr).add j) = some u) := Lib.hid (fun j u hj => by
        rw [add_plain, Nat.zero_add, BA.cell (p := ⟨g, j, none⟩) hgw]
        refine HC.out j u ?_
        rw [← HTKB.out, ← HTK.out, List.map_take, List.map_take] at hj
        exact (List.getElem?_take_of_lt (by have := (List.getElem?_eq_some_iff.1 hj).1; simp at this; omega)).symm.trans hj)
      clear htk hlk htd hld O0 htkb htdb
      go_wp2_with (at_builtin; refine wpList_append_own _ rfl _ _ 24 rfl w.heap.size 9 i0 (.string ⟨#[]⟩) 1 16 Try.underlying24 hi hz0 hz1 hz2 rfl (by decide) _ _ _ rfl HO.out ⟨g, 0, none⟩ k _ (tkb.map strV) rfl (by rw [List.length_map, HLKB.out, Nat.mul_one]) HCA.out (by intro x hx; simp at hx; obtain ⟨y, _, rfl⟩ := hx; rfl) ?h63a ?h48a ?hbsa ?_)
      try (case h63a => first | (rw [List.length_nil]; unfold maxLen; omega) | (unfold maxLen; omega))
      try (case h48a => first | (rw [List.length_nil]; omega) | omega)
      try (case hbsa => first | exact B2.size | exact B1a.size | omega | (simp only [World.size_alloc]; omega))
      intro v1 w1 hown1 hg1 _
      have O1 : OwnS w.heap.size w1 v1 tkb := by unfold OwnS; rw [HLKB.out]; simpa using hown1
      have B1 := BA.grown hg1 BA.size (fun j hj => by simp [Value.ownBlock] at hj; omega)
      have HO1 := Lib.hid O1
      have hne1 := fun j hj => (World.ownsRow.lt O1 j hj).1
      have HCB : Hid (∀ (j : Nat) (u : Value), [Value.string x][j]? = some u → (w1.alloc (.cells #[.string x] 9)).cell? ((⟨w1.heap.size, 0, none⟩ : Addr).add j) = some u) := Lib.hid one_cell
      have B1a := B1.alloc B1.size (.cells #[.string x] 9)
      have O1a := Lib.hid (World.ownsRow.alloc HO1.out (.cells #[.string x] 9))
      have HLK2 := HLKB
      clear hown1 hg1 HO HCA O1 BA
      go_wp2_with (at_builtin; refine wpList_append_own _ rfl _ _ 24 rfl w.heap.size 9 i0 (.string ⟨#[]⟩) 1 16 Try.underlying24 hi hz0 hz1 hz2 rfl (by decide) _ _ _ rfl O1a.out ⟨w1.heap.size, 0, none⟩ 1 _ [.string x] rfl rfl HCB.out (by intro y hy; simp at hy; subst hy; rfl) ?h63b ?h48b ?hbsb ?_)
      try (case h63b => first | (rw [HLK2.out]; unfold maxLen; omega) | (unfold maxLen; omega))
      try (case h48b => first | (rw [HLK2.out]; omega) | omega)
      try (case hbsb => first | exact B2.size | exact B1a.size | omega | (simp only [World.size_alloc]; omega))
      intro v2 w2 hown2 hg2 _
      have O2 : OwnS w.heap.size w2 v2 (tkb ++ [x]) := ownS_snoc hown2
      have B2 := B1a.grown hg2 B1a.size (fun j hj => by have := hne1 j hj; omega)
      have hne2 := fun j hj => (World.ownsRow.lt O2 j hj).1
      have HCC : Hid (∀ (j : Nat) (u : Value), (tdb.map strV)[j]? = some u → w2.cell? ⟨g, k + j, none⟩ = some u) := Lib.hid (fun j u hj => by
        rw [B2.cell (p := ⟨g, k + j, none⟩) hgw]
        refine HC.out (k + j) u ?_
        rw [← HTDB.out, ← HTD.out, List.map_drop, List.map_drop, List.getElem?_drop] at hj
        exact hj)
      have HO2 := Lib.hid O2
      have HLP : Hid ((tkb ++ [x]).length = k + 1) := Lib.hid (by rw [List.length_append, HLK2.out]; rfl)
      obtain ⟨pf, hpf⟩ : ∃ l, tkb ++ [x] = l := ⟨_, rfl⟩
      rw [hpf] at HO2 HLP
      have HPF := Lib.hid hpf
      clear hown2 hg2 O1a HCB B1a O2 HO1 B1 hpf
      by_cases hcq : c = k
      · have HTD0 : Hid (tdb = []) := Lib.hid (List.length_eq_zero_iff.1 (by rw [HLDB.out]; omega))
        go_wp2_with (at_builtin; refine wpList_append_own _ rfl _ _ 24 rfl w.heap.size 9 i0 (.string ⟨#[]⟩) 1 16 Try.underlying24 hi hz0 hz1 hz2 rfl (by decide) _ _ _ rfl HO2.out _ (n - k) _ (tdb.map strV) rfl (by rw [List.length_map, HLDB.out, Nat.mul_one]) ?hcl (by intro x hx; simp at hx; obtain ⟨y, _, rfl⟩ := hx; rfl) ?h63c ?h48c ?hbsc ?_)
        case hcl => intro j u hj; rw [HTD0.out] at hj; simp at hj
        try (case h63c => first | (rw [HLP.out]; unfold maxLen; omega) | (unfold maxLen; omega))
        try (case h48c => first | (rw [HLP.out]; omega) | omega)
        try (case hbsc => first | exact B2.size | exact B1a.size | omega | (simp only [World.size_alloc]; omega))
        intro v3 w3 hown3 hg3 _
        have O3 : OwnS w.heap.size w3 v3 (pf ++ tdb) := by unfold OwnS; rw [List.length_append, HLDB.out, List.map_append]; exact hown3
        have B3 := B2.grown hg3 B2.size (fun j hj => by have := hne2 j hj; omega)
        have hl3 : (pf ++ tdb).length = n + 1 := by rw [List.length_append, HLP.out, HLDB.out]; omega
        obtain ⟨g3, c3, rfl⟩ := ownS_some O3 (by omega)
        have HR : Hid (pf ++ tdb = (putS L x.data.toList).map bs) := Lib.hid (by rw [HPUT.out, ← HPF.out, HTK.out, HTD.out, ← HTKB.out, ← HTDB.out]; simp [bs_of])
        have O4 := ownS_base O3 hB
        rw [hl3] at O4 ⊢
        have HO4 : Hid (OwnS B w3 (.slice (some ⟨g3, 0, none⟩) (n + 1) c3) ((putS L x.data.toList).map bs)) := Lib.hid (by rw [← HR.out]; exact O4)
        have HL3 : Hid ((putS L x.data.toList).length = n + 1) := Lib.hid (by have := congrArg List.length HR.out; rw [hl3, List.length_map] at this; exact this.symm)
        clear hown3 hg3 O3 O4 hl3
        go_wp2_with fail
        go_ret
        exact ⟨g3, n + 1, c3, rfl, HO4.out, HL3.out, B3⟩
      · go_wp2_with (at_builtin; refine wpList_append_own _ rfl _ _ 24 rfl w.heap.size 9 i0 (.string ⟨#[]⟩) 1 16 Try.underlying24 hi hz0 hz1 hz2 rfl (by decide) _ _ _ rfl HO2.out _ (n - k) _ (tdb.map strV) rfl (by rw [List.length_map, HLDB.out, Nat.mul_one]) ?hcl (by intro x hx; simp at hx; obtain ⟨y, _, rfl⟩ := hx; rfl) ?h63c ?h48c ?hbsc ?_)
        case hcl => intro j u hj; rw [add_plain]; first | exact HCC.out j u hj | (simpa using HCC.out j u hj)
        try (case h63c => first | (rw [HLP.out]; unfold maxLen; omega) | (unfold maxLen; omega))
        try (case h48c => first | (rw [HLP.out]; omega) | omega)
        try (case hbsc => first | exact B2.size | exact B1a.size | omega | (simp only [World.size_alloc]; omega))
        intro v3 w3 hown3 hg3 _
        have O3 : OwnS w.heap.size w3 v3 (pf ++ tdb) := by unfold OwnS; rw [List.length_append, HLDB.out, List.map_append]; exact hown3
        have B3 := B2.grown hg3 B2.size (fun j hj => by have := hne2 j hj; omega)
        have hl3 : (pf ++ tdb).length = n + 1 := by rw [List.length_append, HLP.out, HLDB.out]; omega
        obtain ⟨g3, c3, rfl⟩ := ownS_some O3 (by omega)
        have HR : Hid (pf ++ tdb = (putS L x.data.toList).map bs) := Lib.hid (by rw [HPUT.out, ← HPF.out, HTK.out, HTD.out, ← HTKB.out, ← HTDB.out]; simp [bs_of])
        have O4 := ownS_base O3 hB
        rw [hl3] at O4 ⊢
        have HO4 : Hid (OwnS B w3 (.slice (some ⟨g3, 0, none⟩) (n + 1) c3) ((putS L x.data.toList).map bs)) := Lib.hid (by rw [← HR.out]; exact O4)
        have HL3 : Hid ((putS L x.data.toList).length = n + 1) := Lib.hid (by have := congrArg List.length HR.out; rw [hl3, List.length_map] at this; exact this.symm)
        clear hown3 hg3 O3 O4 hl3
        go_wp2_with fail
        go_ret
        exact ⟨g3, n + 1, c3, rfl, HO4.out, HL3.out, B3⟩
end Go.Proofs.Ytcchbhjppbbdpaa
