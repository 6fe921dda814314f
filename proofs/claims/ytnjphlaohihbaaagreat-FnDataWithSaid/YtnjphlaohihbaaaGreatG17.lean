/- A dataset in order of its names: the program. -/
import Derived.Test.YtnjphlaohihbaaaGreatG15
import Derived.Test.YtnjphlaohihbaaaGreatG16
import Derived.Sort.EveryDepth
import Derived.StillTailTactics
import Derived.Test.YtnjphlaohihbaaaGreatG11
import Derived.Test.YtnjphlaohihbaaaGreatG08
import Derived.Deep.RegionHeld3
namespace Go.Proofs.YtnjphlaohihbaaaGreat
open Go.RowKit Go.Maps Go.Sort Go.Shelf
theorem keysDat (b : Nat) (W : World) : Calls Tryz.prog 65 #[.map (some b)] W fun e w' =>
    e = .returned (.func (.func 84) #[] #[.pointer (some ⟨W.heap.size, 0, none⟩)]) ∧ w' = W.alloc (.cells #[.map (some b)] 58) :=
  (callsIn_wide (n := 5)).1 (AnyZ.keys_in Tryz.keysS Fence.wide 5 trivial rfl (some b) W)
theorem map_keysD {w : World} {b n : Nat} {D : DataW Value} {R : Value → Option (DataW Value × List MemPlace)} {kvs : List (Txt × Value)} {ts : List Txt} (hown : w.ownsMap Tryz.prog 9 R b n D) (hD : MapOfD D kvs) (hts : kvs.map Prod.fst = ts) : ts.Perm (strKeys D) := by
  subst hts
  exact Collected.perm (left := fun _ => false) ⟨hD.nodup, fun x => by have := hD.mem x; unfold litS at this; rw [this]; simp⟩ hown lawTxt Tryz.underlying9 (fun _ => rfl)
set_option maxHeartbeats 1000000 in
theorem sortedDat (b n : Nat) (kvs : List (Txt × Value)) (ts : List Txt) (w : World) (h : OwnMapD w b n kvs) (hts : kvs.map Prod.fst = ts) (ht : ts.length ≤ 1000000) :
    Calls Tryz.prog 64 #[.func (.func 84) #[] #[.pointer (some ⟨w.heap.size, 0, none⟩)]] (w.alloc (.cells #[.map (some b)] 58)) fun e w' =>
      ∃ v, e = .returned v ∧ OwnS w.heap.size w' v ((ts.mergeSort leB).map bs) ∧ Below w.heap.size w w' := by
  obtain ⟨D, hown, hD⟩ := h
  have hbl := hown.lt
  have hsz : Maps.size D = ts.length := by rw [hD.size, ← hts, List.length_map]
  have hseq : SeqGives Fence.wide 2 Tryz.prog 84 #[.pointer (some ⟨w.heap.size, 0, none⟩)] encStr (fun ss => ss.Perm (strKeys D)) (Maps.size D) (w.alloc (.cells #[.map (some b)] 58)) :=
    AnyZ.keys_gives (ρ := Tryz.keysS_ren) { Tryz.keysS with } Fence.wide _ trivial rfl (by omega) w.heap.size b n D _ (by simp) (by simp) (hown.alloc _)
  have hc := (callsIn_wide (n := 5)).1 (AnyZ.sorted_in Tryz.sortedS Fence.wide 5 trivial trivial trivial trivial rfl (by omega) (sortsTxt _) (enters_of Tryz.func83 (by kernel_rfl) rfl) 84 #[.pointer (some ⟨w.heap.size, 0, none⟩)] trivial (enters_of Tryz.func84 (by kernel_rfl) rfl) _ _ (by unfold maxLen; omega) (by omega) _ hseq)
  refine hc.mono ?_
  rintro e w' ⟨v, ss, rfl, hS, hrow, _, hb⟩
  have hp : ss.mergeSort leB = ts.mergeSort leB := mergeSort_of_perm (hS.trans (map_keysD hown hD hts).symm)
  have hl : ss.length = ((ts.mergeSort leB).map bs).length := by rw [List.length_map, ← hp, (List.mergeSort_perm ss leB).length_eq]
  refine ⟨v, rfl, ?_, ((Below.refl _ w).alloc (Nat.le_refl _) _).trans (hb.mono (by simp))⟩
  refine ownS_base (B := (w.alloc (.cells #[.map (some b)] 58)).heap.size) ?_ (by simp)
  have hv : ((ts.mergeSort leB).map bs).map strV = (ss.mergeSort leB).map encStr := by rw [hp, List.map_map]; rfl
  unfold OwnS
  rw [hv, ← hl]
  exact hrow
open Go.RowKit Go.WideShapes Go.Maps
set_option maxRecDepth 100000 in
set_option maxHeartbeats 3200000 in
theorem implInOrderD (B b m : Nat) (kvs : List (Txt × Value)) (P : List NamV) (w : World) (hB : B ≤ w.heap.size) (hM : OwnMapD w b m kvs) (hk : ∀ t, t ∈ kvs.map Prod.fst ↔ t ∈ P.map nmT) (hv : ∀ r ∈ P, ∃ u, (nmT r, u) ∈ kvs ∧ OwnT B w u r.2) (hd : ∀ p ∈ kvs, ∀ q ∈ kvs, p.1 ≠ q.1 → ∀ j, p.2.ownBlock = some j → q.2.ownBlock ≠ some j) (hR : RisingS (P.map nmT)) (hl : P.length ≤ 1000) (hsz : ∀ r ∈ P, r.1.size ≤ maxLen) :
    Calls Tryz.prog 38 #[.map (some b)] w fun e w' => ∃ v, e = .returned v ∧ OwnNs B w' v P ∧ Below w.heap.size w w' := by
  have hms : (kvs.map Prod.fst).mergeSort leB = P.map nmT := mergeSort_is hM.nodup hR hk
  have hkl : (kvs.map Prod.fst).length = P.length := by
    have := congrArg List.length hms
    rw [(List.mergeSort_perm _ leB).length_eq, List.length_map (f := nmT)] at this
    exact this
  obtain ⟨n, hn⟩ : ∃ n, P.length = n := ⟨_, rfl⟩
  have hn1 : n ≤ 1000 := by rw [← hn]; exact hl
  have HPL := Lib.hid hn
  have K1 := Lib.hid (keysDat b w)
  have K2 := Lib.hid (sortedDat b m _ _ w hM rfl (by rw [hkl]; omega))
  have HM := Lib.hid hM
  have HV0 := Lib.hid hv
  have HD0 := Lib.hid hd
  have HR := Lib.hid hR
  have HSZ := Lib.hid hsz
  have HMS := Lib.hid hms
  clear hkl hM hk hv hd hR hsz hms hn
  go_enter Tryz.func38, Tryz.ntmps38
  go_wp2_with fail
  refine K1.out.mono ?_
  rintro e w1 ⟨rfl, rfl⟩
  go_wp2_with fail
  refine K2.out.mono ?_
  rintro e w2 ⟨sv, rfl, os, hb2⟩
  rw [HMS.out] at os
  obtain ⟨sa, sc, rfl, _⟩ := os.is
  have hsl : ((P.map nmT).map bs).length = n := by rw [List.length_map, List.length_map, HPL.out]
  rw [hsl] at os ⊢
  have HS := Lib.hid os
  have O0 : Hid (OutN B w2 (.slice none 0 0) [] []) := Lib.hid ⟨World.ownsRow_nil .., InnN.nil _ _, by simp⟩
  have B0 : Below w.heap.size w w2 := hb2
  clear os hsl K1 K2 HMS
  go_wp2_with fail
  go_loopw [3, 10] (fun v' i wr => ∃ (k : Nat) (v : Value), k ≤ n ∧ i = .int .i64 k ∧ v = v' ∧ Hid (∃ L, OutN B wr v (P.take k) L ∧ ∀ (j : Nat) (u : Value), L[j]? = some u → ∃ r : NamV, P[j]? = some r ∧ (nmT r, u) ∈ kvs) ∧ Hid (OwnS w.heap.size wr (.slice sa n sc) ((P.map nmT).map bs)) ∧ Hid (∀ j, v.ownBlock = some j → w.heap.size ≤ j ∧ (Value.slice sa n sc).ownBlock ≠ some j) ∧ Below w.heap.size w wr) (fun _ i _ => n - (intOf i).toNat)
  case atStart => exact ⟨0, _, Nat.zero_le _, rfl, rfl, Lib.hid ⟨[], O0.out, by simp⟩, HS, Lib.hid (fun j hj => by simp [Value.ownBlock] at hj), B0⟩
  case round =>
    clear O0 B0 HS hb2
    obtain ⟨k, v, hk, rfl, rfl, HO, HS, HF, hnx⟩ := hrel
    by_cases hlt : k < n
    · have hkP : k < P.length := by rw [HPL.out]; exact hlt
      obtain ⟨sa', sc', hse, hss⟩ := HS.out.is
      rw [List.length_map, List.length_map, HPL.out] at hse hss
      cases hse
      obtain ⟨g, off, rfl, hgb, _, _, hts, hc⟩ := hss.cells (by omega)
      have ht : P[k]? = some (P[k]'hkP) := List.getElem?_eq_getElem _
      have HK : Hid (P.take (k + 1) = P.take k ++ [P[k]'hkP]) := Lib.hid (List.take_succ_eq_append_getElem _)
      have c0 := hc k (bs (nmT (P[k]'hkP))) (by rw [List.getElem?_map, List.getElem?_map, ht]; rfl)
      have hpm : P[k]'hkP ∈ P := List.getElem_mem hkP
      have htm := HSZ.out _ hpm
      obtain ⟨u, hkv, ou⟩ := HV0.out _ hpm
      generalize P[k]'hkP = t at HK c0 ht hpm htm hkv ou
      obtain ⟨s, gr⟩ := t
      have ebs : bs (nmT (s, gr)) = s := bs_of s
      rw [ebs] at c0
      simp only at htm
      obtain ⟨ua, uc, rfl⟩ := NamK.own_slice ou |>.elim fun a h => h.elim fun n h => h.elim fun c e => (⟨a, (n, c), e⟩ : ∃ a q, u = .slice a q.1 q.2)
      obtain ⟨un, uc⟩ := uc
      simp only at ou hkv
      have HKV := Lib.hid hkv
      have MM := Lib.hid (HM.out.next hnx)
      have OU := Lib.hid (ownTN_kept ou hnx)
      have HUL := Lib.hid (fun j hj => (World.ownsRow.lt ou j hj).2)
      obtain ⟨L, hL, hLi⟩ := HO.out
      have HL := Lib.hid hL
      have HT := Lib.hid ht
      have hlen1 : (P.take k).length ≤ 1048576 := by rw [List.length_take]; omega
      have HD : Hid (∀ x ∈ L, ∀ j, x.ownBlock = some j → (Value.slice ua un uc).ownBlock ≠ some j) := Lib.hid (fun x hx j hj e => by
        obtain ⟨q, hq⟩ := List.mem_iff_getElem?.1 hx
        obtain ⟨r, h1, h2⟩ := hLi q x hq
        have hqk : q < k := by
          have a1 := (List.getElem?_eq_some_iff.1 hq).1
          have a2 := hL.2.1.1
          rw [List.length_take] at a2
          omega
        have a3 : (P.map nmT)[q]? = some (nmT r) := by rw [List.getElem?_map, h1]; rfl
        have a4 : (P.map nmT)[k]? = some (nmT (s, gr)) := by rw [List.getElem?_map, HT.out]; rfl
        obtain ⟨l1, e1⟩ := List.getElem?_eq_some_iff.1 a3
        obtain ⟨l2, e2⟩ := List.getElem?_eq_some_iff.1 a4
        have hlt2 := List.pairwise_iff_getElem.1 HR.out q k l1 l2 hqk
        rw [e1, e2] at hlt2
        exact HD0.out _ h2 _ HKV.out (lessS_ne hlt2) j hj e)
      have HV : Hid (∀ j, (Value.slice ua un uc).ownBlock = some j → v.ownBlock ≠ some j) := Lib.hid (fun j hj e => by have h1 := HUL.out j hj; have h2 := (HF.out j e).1; omega)
      have HLI := Lib.hid hLi
      have ZZ : Hid (∀ w : World, (zeroValue 33).run Tryz.prog w = .ok (.slice none 0 0) w) := Lib.hid (fun w => by kernel_rfl)
      have bLa : Below wr.heap.size wr (wr.alloc (.cells #[.string s, .slice ua un uc] 35)) := (Below.refl _ _).alloc (Nat.le_refl _) _
      have hBa : B ≤ (wr.alloc (.cells #[.string s, .slice ua un uc] 35)).heap.size := by have := hnx.size; rw [World.size_alloc]; omega
      have qa := (NamK.Box2.new wr (.string s) (.slice ua un uc) 35).cells
      have hk6 : (0 : Int) ≤ (k : Int) := by omega
      have hk7 : (k : Int) < (n : Int) := by omega
      clear hts hc ht hpm hkv ou hL hLi hss ebs
      go_wp2_with (first
        | (at_lookup; go_loud (refine wpList_lookD _ rfl _ _ rfl b m kvs rfl MM.out s htm _ HKV.out rfl (ZZ.out _) ?_))
        | (at_builtin; go_loud (refine wpList_moreN (B := B) (t := (s, gr)) (u := .slice ua un uc) (L := P.take k) (us := L) rfl _ _ rfl rfl (HL.out.next bLa) hBa wr.heap.size rfl qa (ownTN_kept OU.out bLa) HD.out HV.out hlen1 ?_)))
      intro v2 w3 o3 hg3 hat
      have O3 : Hid (∃ L, OutN B w3 v2 (P.take (k + 1)) L ∧ ∀ (j : Nat) (u : Value), L[j]? = some u → ∃ r : NamV, P[j]? = some r ∧ (nmT r, u) ∈ kvs) := Lib.hid ⟨_, by rw [HK.out]; exact o3, fun j u hj => by
        have a2 := HL.out.2.1.1
        rw [List.length_take] at a2
        rcases Nat.lt_or_ge j L.length with z | z
        · rw [List.getElem?_append_left z] at hj
          exact HLI.out j u hj
        · have a1 := (List.getElem?_eq_some_iff.1 hj).1
          rw [List.length_append, List.length_singleton] at a1
          obtain rfl : j = L.length := by omega
          rw [List.getElem?_append_right (Nat.le_refl _)] at hj
          simp at hj
          subst hj
          have ek : L.length = k := by rw [a2, HPL.out]; omega
          exact ⟨(s, gr), by rw [ek, HT.out], HKV.out⟩⟩
      have B3 : Below w.heap.size w w3 := (hnx.trans (bLa.mono hnx.size)).grown hg3 (hnx.trans (bLa.mono hnx.size)).size (fun j hj => (HF.out j hj).1)
      have S1 := HS.out.kept bLa
      have S3 : Hid (OwnS w.heap.size w3 (.slice (some ⟨g, off, none⟩) n sc) ((P.map nmT).map bs)) := Lib.hid (World.ownsRow.kept S1 hg3 (.inr (fun e => (HF.out _ e.symm).2 rfl)))
      have F3 : Hid (∀ j, v2.ownBlock = some j → w.heap.size ≤ j ∧ (Value.slice (some ⟨g, off, none⟩) n sc).ownBlock ≠ some j) := Lib.hid (fun j hj => by
        rcases hat with h | h
        · exact HF.out j (h ▸ hj)
        · rw [h] at hj
          have h9 := Option.some.inj hj
          (try rw [World.size_alloc] at h9)
          refine ⟨by have := hnx.size; omega, fun e => ?_⟩
          have h8 := (World.ownsRow.lt HS.out j e).2
          omega)
      clear o3 hg3 hat HO S1 HS HF HL HLI HD HV OU MM qa bLa hBa hnx
      go_wp2_with fail
      go_roundw
      case rel => exact ⟨k + 1, _, by omega, by go_num, rfl, O3, S3, F3, B3⟩
      case measure => simp [intOf]; omega
    · have HE : Hid (OwnNs B wr v P) := Lib.hid (by
        obtain ⟨L, hL, _⟩ := HO.out
        rw [List.take_of_length_le (by rw [HPL.out]; omega)] at hL
        exact hL.own)
      clear HO HS HF
      go_wp2_with fail
      go_ret
      exact ⟨_, rfl, HE.out, hnx⟩
end Go.Proofs.YtnjphlaohihbaaaGreat
/- A graph put in among the others: what is there then, that the names rise, that the dataset is right. -/
namespace Go.Proofs.YtnjphlaohihbaaaGreat
open Go.RowKit Go.WideShapes
theorem nm_inj {a b : ByteArray} (h : a.data.toList = b.data.toList) : a = b := by rw [← bs_of a, h, bs_of]
theorem putGo_mem' (x y : NamV) : ∀ (ts : List NamV) (d : Bool), y ∈ putGo x d ts ↔ (d = false ∧ y = x) ∨ (y ∈ ts ∧ y.1 ≠ x.1)
  | [], d => by cases d <;> simp [putGo]
  | r :: rs, d => by
    have h := putGo_mem' x y rs (d || lessN x r)
    unfold putGo
    rw [List.mem_append, List.mem_append, h]
    by_cases e : r.1 = x.1
    · have hne : lessN x r = false := by unfold lessN; rw [e]; exact ltb_irrefl _
      rw [hne, if_pos e]
      have hq : (y ∈ r :: rs ∧ y.1 ≠ x.1) ↔ (y ∈ rs ∧ y.1 ≠ x.1) := by
        constructor
        · rintro ⟨h1, h2⟩
          rcases List.mem_cons.1 h1 with rfl | h1
          · exact absurd e h2
          · exact ⟨h1, h2⟩
        · rintro ⟨h1, h2⟩
          exact ⟨List.mem_cons_of_mem _ h1, h2⟩
      rw [hq]
      cases d <;> simp
    · rw [if_neg e]
      have hq : (y ∈ r :: rs ∧ y.1 ≠ x.1) ↔ (y = r ∨ (y ∈ rs ∧ y.1 ≠ x.1)) := by
        constructor
        · rintro ⟨h1, h2⟩
          rcases List.mem_cons.1 h1 with rfl | h1
          · exact .inl rfl
          · exact .inr ⟨h1, h2⟩
        · rintro (rfl | ⟨h1, h2⟩)
          · exact ⟨List.mem_cons_self .., e⟩
          · exact ⟨List.mem_cons_of_mem _ h1, h2⟩
      rw [hq]
      cases d <;> cases hl : lessN x r <;> simp
      · constructor
        · rintro (h | h | h)
          · exact .inr (.inl h)
          · exact .inl h
          · exact .inr (.inr h)
        · rintro (h | h | h)
          · exact .inr (.inl h)
          · exact .inl h
          · exact .inr (.inr h)
def RisN (l : List NamV) : Prop := l.Pairwise (fun a b => lessS (nmT a) (nmT b) = true)
theorem risN_iff {l : List NamV} : RisingS (l.map nmT) ↔ RisN l := by unfold RisingS RisN; rw [List.pairwise_map]
theorem putGo_rising (x : NamV) : ∀ (ts : List NamV) (d : Bool), RisN ts → RisN (putGo x d ts)
  | [], d, _ => by cases d <;> simp [putGo, RisN]
  | r :: rs, d, h => by
    unfold RisN at h
    rw [List.pairwise_cons] at h
    obtain ⟨h1, h2⟩ := h
    have ih := putGo_rising x rs (d || lessN x r) h2
    unfold putGo
    unfold RisN at ih ⊢
    rw [List.pairwise_append, List.pairwise_append]
    refine ⟨by split <;> simp, ⟨by split <;> simp, ih, fun a ha b hb => ?_⟩, fun a ha b hb => ?_⟩
    · split at ha
      · simp at ha
      · rename_i e
        obtain rfl := List.mem_singleton.1 ha
        rcases (putGo_mem' x b rs _).1 hb with ⟨hd, rfl⟩ | ⟨hb, _⟩
        · rw [Bool.or_eq_false_iff, lessN_is] at hd
          cases g : lessS (nmT a) (nmT b)
          · exact absurd (nm_inj (lessS_one g hd.2)) e
          · rfl
        · exact h1 b hb
    · split at ha
      · rename_i e
        obtain rfl := List.mem_singleton.1 ha
        rw [Bool.and_eq_true, lessN_is] at e
        have hxr := e.2
        have hb' : b = r ∨ b ∈ rs := by
          rcases List.mem_append.1 hb with hb | hb
          · split at hb
            · simp at hb
            · exact .inl (List.mem_singleton.1 hb)
          · rcases (putGo_mem' a b rs _).1 hb with ⟨hd, _⟩ | ⟨hb, _⟩
            · rw [lessN_is, hxr] at hd; simp at hd
            · exact .inr hb
        rcases hb' with rfl | hb'
        · exact hxr
        · exact lessS_trans hxr (h1 b hb')
      · simp at ha
theorem upto_of_risN {ts : List NamV} (ho : ∀ t ∈ ts, namT t = true) (hr : RisN ts) : gUpto namT lessN ts ts.length = true := by
  unfold RisN at hr
  rw [List.pairwise_iff_getElem] at hr
  refine List.all_eq_true.2 fun i hi => ?_
  have hi := List.mem_range.1 hi
  have hoi : namT ts[i] = true := ho _ (List.getElem_mem hi)
  rcases Nat.eq_zero_or_pos i with rfl | h0
  · rw [gAt_zero (List.getElem?_eq_getElem hi)]; exact hoi
  · rw [gAt_next (t := ts[i]) (u := ts[i - 1]) h0 (List.getElem?_eq_getElem hi) (List.getElem?_eq_getElem (by omega)), hoi, lessN_is, hr (i - 1) i (by omega) hi (by omega)]; rfl
theorem dataOk_ris {ts : List NamV} (h : dataOk ts = true) : RisN ts := risN_iff.1 (dataOk_parts h).2
theorem dataOk_nam {ts : List NamV} (h : dataOk ts = true) : ∀ r ∈ ts, namT r = true := by
  unfold dataOk at h
  rw [Bool.and_eq_true, decide_eq_true_eq] at h
  exact gUpto_mem h.2
theorem putNam_ris {ts : List NamV} (x : NamV) (h : dataOk ts = true) : RisN (putNam ts x) := putGo_rising x ts _ (dataOk_ris h)
theorem putNam_mem {ts : List NamV} {x y : NamV} : y ∈ putNam ts x ↔ (x.2.length ≠ 0 ∧ y = x) ∨ (y ∈ ts ∧ y.1 ≠ x.1) := by
  unfold putNam
  rw [putGo_mem', decide_eq_false_iff_not]
/-- A right dataset with a right graph put in is right, if there is room. -/
theorem dataOk_put {ts : List NamV} {s : ByteArray} {g : List Tri3} (h : dataOk ts = true) (hk : kindL s.data.toList = 1) (hg : graphOk g = true) : dataOk (putNam ts (s, g)) = decide ((putNam ts (s, g)).length ≤ 6) := by
  have hu : gUpto namT lessN (putNam ts (s, g)) (putNam ts (s, g)).length = true := upto_of_risN (fun y hy => by
    rcases putNam_mem.1 hy with ⟨h1, rfl⟩ | ⟨h1, _⟩
    · unfold namT
      simp only [Bool.and_eq_true, decide_eq_true_eq]
      exact ⟨hk, hg, Nat.pos_of_ne_zero h1⟩
    · exact dataOk_nam h y h1) (putNam_ris _ h)
  unfold dataOk
  rw [hu, Bool.and_true]
end Go.Proofs.YtnjphlaohihbaaaGreat
/- A graph put in among the others: the specification. -/
namespace Go.Proofs.YtnjphlaohihbaaaGreat
open Go.RowKit Go.WideShapes
theorem own_slice_len {B : Nat} {w : World} {v : Value} {ts : List Tri3} (h : OwnT B w v ts) : ∃ a c, v = .slice a ts.length c := by
  rcases h.2 with ⟨rfl, e⟩ | ⟨g, c, cur, rfl, _⟩
  · exact ⟨none, 0, by rw [e]⟩
  · exact ⟨_, _, rfl⟩
/-- What the walk keeps: out, and what of it is the call's own. -/
def PutI (B b0 : Nat) (wr : World) (v : Value) (d : Bool) (L : List NamV) (us : List Value) (x : NamV) (ts : List NamV) (k : Nat) : Prop :=
  OutN B wr v L us ∧ L ++ putGo x d (ts.drop k) = putNam ts x ∧ (d = false → ∀ u ∈ us, ∀ j, u.ownBlock = some j → b0 < j) ∧ (∀ j, v.ownBlock = some j → b0 < j)
theorem PutI.most {B b0 : Nat} {wr : World} {v : Value} {d : Bool} {L : List NamV} {us : List Value} {x : NamV} {ts : List NamV} {k : Nat} (h : PutI B b0 wr v d L us x ts k) (ht : ts.length ≤ 1048570) : L.length ≤ 1048572 := by
  have h1 := congrArg List.length h.2.1
  have h2 := putGo_len x ts (decide (x.2.length = 0))
  rw [List.length_append] at h1
  unfold putNam at h1
  split at h2 <;> omega
theorem PutI.skip {B b0 : Nat} {wr : World} {v : Value} {d : Bool} {L : List NamV} {us : List Value} {x : NamV} {ts : List NamV} {k : Nat} {r : NamV} (h : PutI B b0 wr v d L us x ts k) (hr : ts[k]? = some r) (he : r.1 = x.1) (hn : d = true ∨ lessN x r = false) : PutI B b0 wr v d L us x ts (k + 1) := by
  obtain ⟨h1, h2, h3, h4⟩ := h
  refine ⟨h1, ?_, h3, h4⟩
  rw [← h2, putGo_cons hr, if_pos he]
  rcases hn with rfl | hn
  · simp
  · rw [hn]; simp
theorem PutI.copy {B b0 : Nat} {wr w' : World} {v v' u : Value} {d : Bool} {L : List NamV} {us : List Value} {x : NamV} {ts : List NamV} {k : Nat} {r : NamV} (h : PutI B b0 wr v d L us x ts k) (hr : ts[k]? = some r) (he : r.1 ≠ x.1) (hn : d = true ∨ lessN x r = false)
    (ho : OutN B w' v' (L ++ [r]) (us ++ [u])) (hu : ∀ j, u.ownBlock = some j → b0 < j) (hv : ∀ j, v'.ownBlock = some j → b0 < j) : PutI B b0 w' v' d (L ++ [r]) (us ++ [u]) x ts (k + 1) := by
  obtain ⟨h1, h2, h3, h4⟩ := h
  refine ⟨ho, ?_, fun hd y hy j hj => ?_, hv⟩
  · rw [← h2, putGo_cons hr, if_neg he]
    rcases hn with rfl | hn
    · simp
    · rw [hn]; simp
  · rcases List.mem_append.1 hy with hy | hy
    · exact h3 hd y hy j hj
    · obtain rfl := List.mem_singleton.1 hy
      exact hu j hj
/-- The new one itself, ahead of a greater one (which comes behind it). -/
theorem PutI.both {B b0 : Nat} {wr w' : World} {v v' u1 u2 : Value} {L : List NamV} {us : List Value} {x : NamV} {ts : List NamV} {k : Nat} {r : NamV} (h : PutI B b0 wr v false L us x ts k) (hr : ts[k]? = some r) (he : r.1 ≠ x.1) (hn : lessN x r = true)
    (ho : OutN B w' v' ((L ++ [x]) ++ [r]) ((us ++ [u1]) ++ [u2])) (hv : ∀ j, v'.ownBlock = some j → b0 < j) : PutI B b0 w' v' true ((L ++ [x]) ++ [r]) ((us ++ [u1]) ++ [u2]) x ts (k + 1) := by
  obtain ⟨h1, h2, h3, h4⟩ := h
  refine ⟨ho, ?_, fun hd => Bool.noConfusion hd, hv⟩
  rw [← h2, putGo_cons hr, if_neg he, hn]
  simp
set_option maxRecDepth 100000 in
set_option maxHeartbeats 12800000 in
theorem specPutNam (B : Nat) (a : Option Addr) (len cap : Nat) (ts : List NamV) (s : ByteArray) (xv : Value) (g : List Tri3) (w : World) (h : IsNams w a len cap ts) (hx : OwnT B w xv g) (hB : B ≤ w.heap.size) (hlen : len ≤ 1048570) (htot : totN ts ≤ 1048576) :
    Calls Tryz.prog 42 #[.slice a len cap, .agg #[.string s, xv]] w fun e w' => ∃ v, e = .returned v ∧ OwnNs B w' v (putNam ts (s, g)) ∧ Below w.heap.size w w' := by
  obtain ⟨xa, xc, rfl⟩ := own_slice_len hx
  obtain ⟨xn, hxn⟩ : ∃ n, g.length = n := ⟨_, rfl⟩
  rw [hxn] at hx ⊢
  obtain ⟨d0, hd0⟩ : ∃ d, decide (g.length = 0) = d := ⟨_, rfl⟩
  have ED : ((xn : Int) == 0) = d0 := by
    rw [← hd0, hxn, Bool.eq_iff_iff, beq_iff_eq, decide_eq_true_eq]; omega
  have H := Lib.hid h
  have HL := Lib.hid h.len
  have HX := Lib.hid hx
  have htl : ts.length ≤ 1048570 := by rw [h.len]; exact hlen
  have HTL := Lib.hid htl
  have HTT : Hid (∀ t ∈ ts, t.2.length ≤ 1048576) := Lib.hid (fun t ht => by have := totN_mem ht; omega)
  have X0 := NamK.Box2.new w (.string s) (.slice xa xn xc) 35
  have X1 := Lib.hid (X0.alloc (.cells #[] 35))
  have B0 := ((Below.refl w.heap.size w).alloc (Nat.le_refl _) (.cells #[.string s, .slice xa xn xc] 35))
  have B1 := B0.alloc B0.size (.cells #[] 35)
  have hlit := World.ownsRow_lit (size := 2) (e := 35) (w.alloc (.cells #[.string s, .slice xa xn xc] 35)) #[] 0 (Nat.le_refl _) (by decide) rfl
  have I0 : Hid (PutI B w.heap.size ((w.alloc (.cells #[.string s, .slice xa xn xc] 35)).alloc (.cells #[] 35)) (.slice (some ⟨w.heap.size + 1, 0, none⟩) 0 0) d0 [] [] (s, g) ts 0) := Lib.hid (by
    rw [World.size_alloc] at hlit
    refine ⟨⟨?_, InnN.nil _ _, by simp⟩, ?_, by simp, fun j hj => by simp [Value.ownBlock] at hj; omega⟩
    · obtain ⟨q1, q2⟩ := hlit
      refine ⟨q1, ?_⟩
      rcases q2 with q2 | ⟨gg, cc, cur, e, hBB, r⟩
      · exact .inl q2
      · exact .inr ⟨gg, cc, cur, e, Nat.le_trans hB (Nat.le_trans (Nat.le_succ _) hBB), r⟩
    · unfold putNam
      simp only [List.drop_zero, List.nil_append]
      rw [hd0])
  obtain ⟨x0, x1⟩ := X0.cells
  obtain ⟨y0, y1⟩ := X1.out.cells
  clear h hx hlit hd0 X0
  go_enter Tryz.func42, Tryz.ntmps42
  go_wp2_with fail
  clear x0 x1 y0 y1
  go_loopw [5, 6, 7] (fun v' dd i wr => ∃ (k : Nat) (v : Value) (d : Bool) (L : List NamV) (us : List Value), k ≤ len ∧ i = .int .i64 k ∧ dd = .bool d ∧ v = v' ∧ Hid (PutI B w.heap.size wr v d L us (s, g) ts k) ∧ Hid (NamK.Box2 wr w.heap.size (.string s) (.slice xa xn xc) 35) ∧ Below w.heap.size w wr) (fun _ _ i _ => len - (intOf i).toNat)
  case atStart => exact ⟨0, _, d0, [], [], Nat.zero_le _, rfl, rfl, rfl, I0, X1, B1⟩
  case round =>
    obtain ⟨k, v, d, L, us, hk, rfl, rfl, rfl, HI, HX2, hnx⟩ := hrel
    clear I0 X1 B0 B1 ED
    have hk6 : (0 : Int) ≤ (k : Int) := by omega
    have hk8 : ¬ (k : Int) < 0 := by omega
    by_cases hlt : k < len
    · have hk7 : (k : Int) < (len : Int) := by omega
      obtain ⟨b, off, rfl, hb0, hll, hm, hts, hc⟩ := H.out.cells (by omega)
      have ht : ts[k]? = some (ts[k]'(by omega)) := List.getElem?_eq_getElem (by omega)
      have hgl := HTT.out _ (List.mem_of_getElem? ht)
      obtain ⟨ga, gn, gc, c0, c1, hz, m0⟩ := hc k _ ht
      generalize ts[k]'(by omega) = r at ht hgl c0 c1 hz m0
      obtain ⟨rs, rg⟩ := r
      simp only at hgl c0 c1 hz m0
      have hgn := hz.len
      have HT := Lib.hid ht
      have c0w := c0
      have c1w := c1
      rw [← hnx.cell (p := ⟨b, _, none⟩) hb0] at c0 c1
      have HZ := Lib.hid hz
      have HML := Lib.hid (HI.out.most HTL.out)
      have HXO : Hid (OwnT B wr (.slice xa xn xc) g) := Lib.hid (ownTN_kept HX.out (by exact ⟨hnx.os, hnx.tape, hnx.output, hnx.size, hnx.block⟩))
      have HXL : Hid (∀ j, (Value.slice xa xn xc).ownBlock = some j → j < w.heap.size) := Lib.hid (fun j hj => (World.ownsRow.lt HX.out j hj).2)
      obtain ⟨x0, x1⟩ := HX2.out.cells
      have hxw : w.heap.size < wr.heap.size := HX2.out.lt
      have hbw : b < wr.heap.size := by omega
      have HVB : Hid (∀ j, v.ownBlock = some j → w.heap.size < j) := Lib.hid HI.out.2.2.2
      clear ht hz hc hm hll hts m0
      cases d
      · by_cases hless : lessN (s, g) (rs, rg) = true
        · skip
          have E3 : Op.bytesLess rs.toList s.toList = false := ltb_asymm _ _ hless
          have hne : rs ≠ s := fun e => by subst e; unfold lessN at hless; rw [ltb_irrefl] at hless; cases hless
          have E1 := bytes_not hne
          go_wp2_with fail
          refine wp_region_held_drew (S := (fun w' => (w'.cell? ⟨b, off + k * 2, none⟩ = some (.string rs) ∧ w'.cell? ⟨b, off + k * 2 + 1, none⟩ = some (.slice ga gn gc)) ∧ w'.cell? ⟨w.heap.size, 0, none⟩ = some (.string s))) (by kernel_rfl) ?_ (fun hHeld => ?_)
          · exact ⟨⟨c0, c1⟩, x0⟩
          refine wpAnyH_take (i := 0) (v := ?_) rfl (by kernel_rfl) (by kernel_rfl) (by kernel_rfl) (fun _ _ _ h => h) (Or.inl ⟨by kernel_rfl, ?_⟩) (by assumption) ?_
          rotate_left
          · intro w hSw; (try dsimp only at hSw); go_simp; try with_reducible rfl
          refine wpAnyH_take (i := 1) (v := ?_) rfl (by kernel_rfl) (by kernel_rfl) (by kernel_rfl) (fun _ _ _ h => h) (Or.inl ⟨by kernel_rfl, ?_⟩) (by assumption) ?_
          rotate_left
          · intro w hSw; (try dsimp only at hSw); go_simp; try with_reducible rfl
          refine wpAnyH_take (i := 2) (v := ?_) rfl (by kernel_rfl) (by kernel_rfl) (by kernel_rfl) (fun _ _ _ h => h) (Or.inl ⟨by kernel_rfl, ?_⟩) (by assumption) ?_
          rotate_left
          · intro w hSw; (try dsimp only at hSw); go_simp; try with_reducible rfl
          refine wpAnyH_take (i := 3) (v := ?_) rfl (by kernel_rfl) (by kernel_rfl) (by kernel_rfl) (fun _ _ _ h => h) (Or.inl ⟨by kernel_rfl, ?_⟩) (by assumption) ?_
          rotate_left
          · intro w hSw; (try dsimp only at hSw); go_simp; try with_reducible rfl
          refine wpAnyH_take (i := 4) (v := ?_) rfl (by kernel_rfl) (by kernel_rfl) (by kernel_rfl) (fun _ _ _ h => h) (Or.inl ⟨by kernel_rfl, ?_⟩) (by assumption) ?_
          rotate_left
          · intro w hSw; (try dsimp only at hSw); go_simp; try with_reducible rfl
          refine wpAnyH_take (i := 5) (v := ?_) rfl (by kernel_rfl) (by kernel_rfl) (by kernel_rfl) (fun _ _ _ h => h) (Or.inl ⟨by kernel_rfl, ?_⟩) (by assumption) ?_
          rotate_left
          · intro w hSw; (try dsimp only at hSw); go_simp; try with_reducible rfl
          refine wpAnyH_take (i := 6) (v := ?_) rfl (by kernel_rfl) (by kernel_rfl) (by kernel_rfl) (fun _ _ _ h => h) (Or.inl ⟨by kernel_rfl, ?_⟩) (by assumption) ?_
          rotate_left
          · intro w hSw; (try dsimp only at hSw); go_simp; try with_reducible rfl
          refine wpAnyH_take (i := 7) (v := ?_) rfl (by kernel_rfl) (by kernel_rfl) (by kernel_rfl) (fun _ _ _ h => h) (Or.inl ⟨by kernel_rfl, ?_⟩) (by assumption) ?_
          rotate_left
          · intro w hSw; (try dsimp only at hSw); go_simp; try with_reducible rfl
          refine wpAnyH_take (i := 8) (v := ?_) rfl (by kernel_rfl) (by kernel_rfl) (by kernel_rfl) (fun _ _ _ h => h) (Or.inl ⟨by kernel_rfl, ?_⟩) (by assumption) ?_
          rotate_left
          · intro w hSw; (try dsimp only at hSw); go_simp; try with_reducible rfl
          refine wpAnyH_take (i := 9) (v := ?_) rfl (by kernel_rfl) (by kernel_rfl) (by kernel_rfl) (fun _ _ _ h => h) (Or.inl ⟨by kernel_rfl, ?_⟩) (by assumption) ?_
          rotate_left
          · intro w hSw; (try dsimp only at hSw); go_simp; try with_reducible rfl
          refine wpAnyH_take (i := 10) (v := ?_) rfl (by kernel_rfl) (by kernel_rfl) (by kernel_rfl) (fun _ _ _ h => h) (Or.inl ⟨by kernel_rfl, ?_⟩) (by assumption) ?_
          rotate_left
          · intro w hSw; (try dsimp only at hSw); go_simp; try with_reducible rfl
          refine wpAnyH_take (i := 11) (v := ?_) rfl (by kernel_rfl) (by kernel_rfl) (by kernel_rfl) (fun _ _ _ h => h) (Or.inl ⟨by kernel_rfl, ?_⟩) (by assumption) ?_
          rotate_left
          · intro w hSw; (try dsimp only at hSw); go_simp; try with_reducible rfl
          refine wpAnyH_done (by kernel_rfl) ?_ _
          try simp only [Act.put, List.setIfInBounds_toArray, List.set_cons_zero, List.set_cons_succ, List.getElem_toArray, List.getElem_cons_zero, List.getElem_cons_succ]
          have HB : B ≤ wr.heap.size := by omega
          have HBa : B ≤ (World.drew (wr.alloc (.cells #[.string s, .slice xa xn xc] 35))).heap.size := by show B ≤ (wr.alloc _).heap.size; rw [World.size_alloc]; omega
          have bLa : Below wr.heap.size wr (World.drew (wr.alloc (.cells #[.string s, .slice xa xn xc] 35))) := ((Below.refl _ _).alloc (Nat.le_refl _) _).drew
          have qa := (NamK.Box2.new wr (.string s) (.slice xa xn xc) 35).drew.cells
          have q0 := (HX2.out.cells).2
          go_wp2_with (at_builtin; go_loud (refine wpList_moreN (B := B) (t := (s, g)) (u := .slice xa xn xc) (L := L) (us := us) rfl _ _ rfl rfl (HI.out.1.next bLa) HBa wr.heap.size rfl qa (ownTN_kept HXO.out bLa) (fun y hy j hj e => by have h1 := HI.out.2.2.1 rfl y hy j hj; have h2 := HXL.out j e; omega) (fun j hj e => by have h1 := HVB.out j e; have h2 := HXL.out j hj; omega) (by have := HML.out; omega) ?_))
          intro v5 w5 o5 hg5 hat5
          have x5 : NamK.Box2 w5 w.heap.size (.string s) (.slice xa xn xc) 35 := (hg5.block _ (HX2.out.next bLa).lt (fun e => Nat.lt_irrefl _ (HVB.out _ e.symm))).trans (HX2.out.next bLa)
          have n5 : Below w.heap.size w w5 := (hnx.trans (bLa.mono hnx.size)).grown hg5 (hnx.trans (bLa.mono hnx.size)).size (fun i hi => Nat.le_of_lt (HVB.out i hi))
          have hv5 : ∀ i, v5.ownBlock = some i → w.heap.size < i := by
            intro i hi
            rcases hat5 with e | e
            · exact HVB.out i (e ▸ hi)
            · rw [e] at hi; have h9 := Option.some.inj hi; have := bLa.size; omega
          have HOb : Hid (OutN B w5 v5 (L ++ [(s, g)]) (us ++ [.slice xa xn xc])) := Lib.hid (by exact o5)
          have HXb : Hid (NamK.Box2 w5 w.heap.size (.string s) (.slice xa xn xc) 35) := Lib.hid (by exact x5)
          have hnb : Below w.heap.size w w5 := n5
          have hmlb : ((L ++ [(s, g)])).length ≤ 1048576 := by have := HML.out; simp only [List.length_append, List.length_cons, List.length_nil]; omega
          have HVb : Hid (∀ j, v5.ownBlock = some j → w.heap.size < j) := Lib.hid (hv5)
          have d0 : w5.cell? ⟨b, off + k * 2, none⟩ = some (.string rs) := (hnb.cell (p := ⟨b, _, none⟩) hb0).trans c0w
          have d1 : w5.cell? ⟨b, off + k * 2 + 1, none⟩ = some (.slice ga gn gc) := (hnb.cell (p := ⟨b, _, none⟩) hb0).trans c1w
          have z0 := HXb.out.cells.1
          go_wp2_with fail
          refine wp_region_held_drew (S := (fun w' => (w'.cell? ⟨b, off + k * 2, none⟩ = some (.string rs) ∧ w'.cell? ⟨b, off + k * 2 + 1, none⟩ = some (.slice ga gn gc)) ∧ w'.cell? ⟨w.heap.size, 0, none⟩ = some (.string s))) (by kernel_rfl) ?_ (fun hHeld => ?_)
          · exact ⟨⟨d0, d1⟩, z0⟩
          refine wpAnyH_take (i := 0) (v := ?_) rfl (by kernel_rfl) (by kernel_rfl) (by kernel_rfl) (fun _ _ _ h => h) (Or.inl ⟨by kernel_rfl, ?_⟩) (by assumption) ?_
          rotate_left
          · intro w hSw; (try dsimp only at hSw); go_simp; try with_reducible rfl
          refine wpAnyH_take (i := 1) (v := ?_) rfl (by kernel_rfl) (by kernel_rfl) (by kernel_rfl) (fun _ _ _ h => h) (Or.inl ⟨by kernel_rfl, ?_⟩) (by assumption) ?_
          rotate_left
          · intro w hSw; (try dsimp only at hSw); go_simp; try with_reducible rfl
          refine wpAnyH_take (i := 2) (v := ?_) rfl (by kernel_rfl) (by kernel_rfl) (by kernel_rfl) (fun _ _ _ h => h) (Or.inl ⟨by kernel_rfl, ?_⟩) (by assumption) ?_
          rotate_left
          · intro w hSw; (try dsimp only at hSw); go_simp; try with_reducible rfl
          refine wpAnyH_take (i := 3) (v := ?_) rfl (by kernel_rfl) (by kernel_rfl) (by kernel_rfl) (fun _ _ _ h => h) (Or.inl ⟨by kernel_rfl, ?_⟩) (by assumption) ?_
          rotate_left
          · intro w hSw; (try dsimp only at hSw); go_simp; try with_reducible rfl
          refine wpAnyH_take (i := 4) (v := ?_) rfl (by kernel_rfl) (by kernel_rfl) (by kernel_rfl) (fun _ _ _ h => h) (Or.inl ⟨by kernel_rfl, ?_⟩) (by assumption) ?_
          rotate_left
          · intro w hSw; (try dsimp only at hSw); go_simp; try with_reducible rfl
          refine wpAnyH_take (i := 5) (v := ?_) rfl (by kernel_rfl) (by kernel_rfl) (by kernel_rfl) (fun _ _ _ h => h) (Or.inl ⟨by kernel_rfl, ?_⟩) (by assumption) ?_
          rotate_left
          · intro w hSw; (try dsimp only at hSw); go_simp; try with_reducible rfl
          refine wpAnyH_take (i := 6) (v := ?_) rfl (by kernel_rfl) (by kernel_rfl) (by kernel_rfl) (fun _ _ _ h => h) (Or.inl ⟨by kernel_rfl, ?_⟩) (by assumption) ?_
          rotate_left
          · intro w hSw; (try dsimp only at hSw); go_simp; try with_reducible rfl
          refine wpAnyH_take (i := 7) (v := ?_) rfl (by kernel_rfl) (by kernel_rfl) (by kernel_rfl) (fun _ _ _ h => h) (Or.inl ⟨by kernel_rfl, ?_⟩) (by assumption) ?_
          rotate_left
          · intro w hSw; (try dsimp only at hSw); go_simp; try with_reducible rfl
          refine wpAnyH_done (by kernel_rfl) ?_ _
          try simp only [Act.put, List.setIfInBounds_toArray, List.set_cons_zero, List.set_cons_succ, List.getElem_toArray, List.getElem_cons_zero, List.getElem_cons_succ]
          go_wp2_with fail
          have hxb : w.heap.size < w5.heap.size := HXb.out.lt
          have bW : Below w.heap.size w (World.alloc (World.drew (World.drew w5)) (.cells #[] 26)) := (hnb.drew.drew).alloc (by exact hnb.size) _
          have HA := Lib.hid (cells_new (World.drew (World.drew w5)) #[] 26).now
          refine wp_region_held_drew (S := (fun w' => (w'.cell? ⟨b, off + k * 2, none⟩ = some (.string rs) ∧ w'.cell? ⟨b, off + k * 2 + 1, none⟩ = some (.slice ga gn gc)) ∧ w'.cell? ⟨w.heap.size, 0, none⟩ = some (.string s))) (by kernel_rfl) ?_ (fun hHeld => ?_)
          · exact ⟨⟨d0, d1⟩, z0⟩
          refine wpAnyH_take (i := 0) (v := ?_) rfl (by kernel_rfl) (by kernel_rfl) (by kernel_rfl) (fun _ _ _ h => h) (Or.inl ⟨by kernel_rfl, ?_⟩) (by assumption) ?_
          rotate_left
          · intro w hSw; (try dsimp only at hSw); go_simp; try with_reducible rfl
          refine wpAnyH_take (i := 1) (v := ?_) rfl (by kernel_rfl) (by kernel_rfl) (by kernel_rfl) (fun _ _ _ h => h) (Or.inl ⟨by kernel_rfl, ?_⟩) (by assumption) ?_
          rotate_left
          · intro w hSw; (try dsimp only at hSw); go_simp; try with_reducible rfl
          refine wpAnyH_take (i := 2) (v := ?_) rfl (by kernel_rfl) (by kernel_rfl) (by kernel_rfl) (fun _ _ _ h => h) (Or.inl ⟨by kernel_rfl, ?_⟩) (by assumption) ?_
          rotate_left
          · intro w hSw; (try dsimp only at hSw); go_simp; try with_reducible rfl
          refine wpAnyH_take (i := 3) (v := ?_) rfl (by kernel_rfl) (by kernel_rfl) (by kernel_rfl) (fun _ _ _ h => h) (Or.inl ⟨by kernel_rfl, ?_⟩) (by assumption) ?_
          rotate_left
          · intro w hSw; (try dsimp only at hSw); go_simp; try with_reducible rfl
          refine wpAnyH_take (i := 4) (v := ?_) rfl (by kernel_rfl) (by kernel_rfl) (by kernel_rfl) (fun _ _ _ h => h) (Or.inl ⟨by kernel_rfl, ?_⟩) (by assumption) ?_
          rotate_left
          · intro w hSw; (try dsimp only at hSw); go_simp; try with_reducible rfl
          refine wpAnyH_take (i := 5) (v := ?_) rfl (by kernel_rfl) (by kernel_rfl) (by kernel_rfl) (fun _ _ _ h => h) (Or.inl ⟨by kernel_rfl, ?_⟩) (by assumption) ?_
          rotate_left
          · intro w hSw; (try dsimp only at hSw); go_simp; try with_reducible rfl
          refine wpAnyH_take (i := 7) (v := ?_) rfl (by kernel_rfl) (by kernel_rfl) (by kernel_rfl) (fun _ _ _ h => h) (Or.inl ⟨by kernel_rfl, ?_⟩) (by assumption) ?_
          rotate_left
          · intro w hSw; (try dsimp only at hSw); go_simp; try with_reducible rfl
          refine wpAnyH_take (i := 8) (v := ?_) rfl (by kernel_rfl) (by kernel_rfl) (by kernel_rfl) (fun _ _ _ h => h) (Or.inl ⟨by kernel_rfl, ?_⟩) (by assumption) ?_
          rotate_left
          · intro w hSw; (try dsimp only at hSw); go_simp; try with_reducible rfl
          refine wpAnyH_take (i := 9) (v := ?_) rfl (by kernel_rfl) (by kernel_rfl) (by kernel_rfl) (fun _ _ _ h => h) (Or.inl ⟨by kernel_rfl, ?_⟩) (by assumption) ?_
          rotate_left
          · intro w hSw; (try dsimp only at hSw); go_simp; try with_reducible rfl
          refine wpAnyH_take (i := 10) (v := ?_) rfl (by kernel_rfl) (by kernel_rfl) (by kernel_rfl) (fun _ _ _ h => h) (Or.inl ⟨by kernel_rfl, ?_⟩) (by assumption) ?_
          rotate_left
          · intro w hSw; (try dsimp only at hSw); go_simp; try with_reducible rfl
          refine wpAnyH_take (i := 11) (v := ?_) rfl (by kernel_rfl) (by kernel_rfl) (by kernel_rfl) (fun _ _ _ h => h) (Or.inl ⟨by kernel_rfl, ?_⟩) (by assumption) ?_
          rotate_left
          · intro w hSw; (try dsimp only at hSw); go_simp; try with_reducible rfl
          refine wpAnyH_ready (rs := [6]) (by kernel_rfl) (by simp) ?_
          refine AllReadyH.cons rfl (fun K hK => ?_) AllReadyH.nil
          go_simp
          clear hHeld
          refine hK.out _ _ ?_ (fun hHeld => ?_)
          · exact ⟨⟨(bW.cell (p := ⟨b, _, none⟩) hb0).trans c0w, (bW.cell (p := ⟨b, _, none⟩) hb0).trans c1w⟩, ((HXb.out.next ((Below.refl _ _).drew.drew)).alloc _).cells.1⟩
          clear hK K
          refine wpAnyH_ready (rs := [12]) (by kernel_rfl) (by simp) ?_
          refine AllReadyH.cons rfl (fun K hK => ?_) AllReadyH.nil
          refine upon_copyN _ _ (by rfl) _ (by rfl) HA.out ga gn gc rg (by rfl) (HZ.out.next bW) (by omega) ?_
          intro cv w2 j hj hjo hcv htu
          obtain ⟨qa, qc, hqe⟩ := own_slice_len hcv.now.1
          rw [hgn] at hqe
          subst hqe
          have hs1 : (World.drew (World.drew w5)).heap.size ≤ (World.alloc (World.drew (World.drew w5)) (.cells #[] 26)).heap.size := by rw [World.size_alloc]; exact Nat.le_succ _
          have b12 : Below (World.drew (World.drew w5)).heap.size (World.drew (World.drew w5)) w2 := ((Below.refl (World.drew (World.drew w5)).heap.size (World.drew (World.drew w5))).alloc (Nat.le_refl _) _).trans (htu.below hs1 (Nat.le_refl _))
          have bb2 : Below w5.heap.size w5 w2 := ((Below.refl w5.heap.size w5).drew.drew).trans (by exact b12)
          have b2w : Below w.heap.size w w2 := hnb.trans (bb2.mono hnb.size)
          have o2 : OutN B w2 v5 (L ++ [(s, g)]) (us ++ [.slice xa xn xc]) := HOb.out.next bb2
          have x2 := HXb.out.next bb2
          clear hHeld
          refine hK.out _ _ ?_ (fun hHeld => ?_)
          · exact ⟨⟨(b2w.cell (p := ⟨b, _, none⟩) hb0).trans c0w, (b2w.cell (p := ⟨b, _, none⟩) hb0).trans c1w⟩, x2.cells.1⟩
          clear hK K
          refine wpAnyH_take (i := 13) (v := ?_) rfl (by kernel_rfl) (by kernel_rfl) (by kernel_rfl) (fun _ _ _ h => h) (Or.inl ⟨by kernel_rfl, ?_⟩) (by assumption) ?_
          rotate_left
          · intro w hSw; (try dsimp only at hSw); go_simp; try with_reducible rfl
          refine wpAnyH_ready (rs := [14]) (by kernel_rfl) (by simp) ?_
          refine AllReadyH.cons rfl (fun K hK => ?_) AllReadyH.nil
          go_simp
          clear hHeld
          refine hK.out _ _ ?_ (fun hHeld => ?_)
          · exact ⟨⟨((b2w.alloc b2w.size _).cell (p := ⟨b, _, none⟩) hb0).trans c0w, ((b2w.alloc b2w.size _).cell (p := ⟨b, _, none⟩) hb0).trans c1w⟩, (x2.alloc _).cells.1⟩
          clear hK K
          have hj2 : j = w5.heap.size ∨ j = w5.heap.size + 1 := by rcases hj with e | e; (exact .inl e); (exact .inr (e.trans (World.size_alloc w5 (.cells #[] 26))))
          have hjV : w5.heap.size ≤ j := by omega
          have hjl : w.heap.size < j ∧ j < w2.heap.size := ⟨by omega, hcv.le⟩
          have eL : (w2.alloc (.cells #[.string rs, .slice qa gn qc] 35)).heap.size = w2.heap.size + 1 := World.size_alloc _ _
          have hBL : B ≤ (w2.alloc (.cells #[.string rs, .slice qa gn qc] 35)).heap.size := by have := b2w.size; omega
          have hqL := (NamK.Box2.new w2 (.string rs) (.slice qa gn qc) 35).cells
          have o3 := o2.next ((Below.refl w2.heap.size w2).alloc (Nat.le_refl _) (.cells #[.string rs, .slice qa gn qc] 35))
          have u3 : OwnT B (w2.alloc (.cells #[.string rs, .slice qa gn qc] 35)) (.slice qa gn qc) rg := own_base (hcv.alloc _).now.1 (by omega)
          refine wpAnyH_ready (rs := [15]) (by kernel_rfl) (by simp) ?_
          refine AllReadyH.cons rfl (fun K hK => ?_) AllReadyH.nil
          refine upon_moreN (B := B) (t := (rs, rg)) (u := .slice qa gn qc) _ _ (by rfl) (by rfl) o3 hBL w2.heap.size (by rfl) hqL u3 (fun y hy i hi e => by have h1 := (HOb.out.lt y hy i hi).2; rw [hjo] at e; have := Option.some.inj e; omega) (fun i hi e => by have h1 := (World.ownsRow.lt HOb.out.1 i e).2; rw [hjo] at hi; have := Option.some.inj hi; omega) hmlb ?_
          intro v4 w4 o4 hg4 hat4
          have x4 : NamK.Box2 w4 w.heap.size (.string s) (.slice xa xn xc) 35 := (hg4.block _ (x2.alloc _).lt (fun e => Nat.lt_irrefl _ (HVb.out _ e.symm))).trans (x2.alloc _)
          have b4 := (b2w.alloc b2w.size (.cells #[.string rs, .slice qa gn qc] 35)).grown hg4 (b2w.alloc b2w.size _).size (fun i hi => Nat.le_of_lt (HVb.out i hi))
          have hv4 : ∀ i, v4.ownBlock = some i → w.heap.size < i := by
            intro i hi
            rcases hat4 with e | e
            · exact HVb.out i (e ▸ hi)
            · rw [e] at hi; have h9 := Option.some.inj hi; have := b2w.size; omega
          have cell4 : ∀ p : Addr, p.block < w.heap.size → w4.cell? p = w.cell? p := fun p hp => b4.cell hp
          clear hHeld
          refine hK.out _ _ ?_ (fun hHeld => ?_)
          · exact ⟨⟨(cell4 ⟨b, _, none⟩ hb0).trans c0w, (cell4 ⟨b, _, none⟩ hb0).trans c1w⟩, x4.cells.1⟩
          clear hK K
          refine wpAnyH_take (i := 16) (v := ?_) rfl (by kernel_rfl) (by kernel_rfl) (by kernel_rfl) (fun _ _ _ h => h) (Or.inl ⟨by kernel_rfl, ?_⟩) (by assumption) ?_
          rotate_left
          · intro w hSw; (try dsimp only at hSw); go_simp; try with_reducible rfl
          refine wpAnyH_done (by kernel_rfl) ?_ _
          try simp only [Act.put, List.setIfInBounds_toArray, List.set_cons_zero, List.set_cons_succ, List.getElem_toArray, List.getElem_cons_zero, List.getElem_cons_succ]
          have I4 : Hid (PutI B w.heap.size w4 v4 true ((L ++ [(s, g)]) ++ [(rs, rg)]) ((us ++ [.slice xa xn xc]) ++ [.slice qa gn qc]) (s, g) ts (k + 1)) := Lib.hid (HI.out.both HT.out hne hless o4 hv4)
          have HX4 := Lib.hid x4
          clear hHeld o4 hg4 hat4 x4 hv4 cell4 x2 o2 o3 u3 b2w hcv htu HA bW HZ HI HX2 HXb HOb HVb hnb c0 c1 c0w c1w d0 d1 z0
          go_wp2_with fail
          go_roundw
          case rel => exact ⟨k + 1, _, true, _, _, by omega, by go_num, rfl, rfl, I4, HX4, b4⟩
          case measure => simp [intOf]; omega
        · have hnl : lessN (s, g) (rs, rg) = false := by simpa using hless
          by_cases hes : rs = s
          · have E1 := bytes_is hes
            have E3 : Op.bytesLess rs.toList s.toList = false := by rw [hes]; exact ltb_irrefl _
            go_wp2_with fail
            refine wp_region_held_drew (S := (fun w' => (w'.cell? ⟨b, off + k * 2, none⟩ = some (.string rs) ∧ w'.cell? ⟨b, off + k * 2 + 1, none⟩ = some (.slice ga gn gc)) ∧ w'.cell? ⟨w.heap.size, 0, none⟩ = some (.string s))) (by kernel_rfl) ?_ (fun hHeld => ?_)
            · exact ⟨⟨c0, c1⟩, x0⟩
            refine wpAnyH_take (i := 0) (v := ?_) rfl (by kernel_rfl) (by kernel_rfl) (by kernel_rfl) (fun _ _ _ h => h) (Or.inl ⟨by kernel_rfl, ?_⟩) (by assumption) ?_
            rotate_left
            · intro w hSw; (try dsimp only at hSw); go_simp; try with_reducible rfl
            refine wpAnyH_take (i := 1) (v := ?_) rfl (by kernel_rfl) (by kernel_rfl) (by kernel_rfl) (fun _ _ _ h => h) (Or.inl ⟨by kernel_rfl, ?_⟩) (by assumption) ?_
            rotate_left
            · intro w hSw; (try dsimp only at hSw); go_simp; try with_reducible rfl
            refine wpAnyH_take (i := 2) (v := ?_) rfl (by kernel_rfl) (by kernel_rfl) (by kernel_rfl) (fun _ _ _ h => h) (Or.inl ⟨by kernel_rfl, ?_⟩) (by assumption) ?_
            rotate_left
            · intro w hSw; (try dsimp only at hSw); go_simp; try with_reducible rfl
            refine wpAnyH_take (i := 3) (v := ?_) rfl (by kernel_rfl) (by kernel_rfl) (by kernel_rfl) (fun _ _ _ h => h) (Or.inl ⟨by kernel_rfl, ?_⟩) (by assumption) ?_
            rotate_left
            · intro w hSw; (try dsimp only at hSw); go_simp; try with_reducible rfl
            refine wpAnyH_take (i := 4) (v := ?_) rfl (by kernel_rfl) (by kernel_rfl) (by kernel_rfl) (fun _ _ _ h => h) (Or.inl ⟨by kernel_rfl, ?_⟩) (by assumption) ?_
            rotate_left
            · intro w hSw; (try dsimp only at hSw); go_simp; try with_reducible rfl
            refine wpAnyH_take (i := 5) (v := ?_) rfl (by kernel_rfl) (by kernel_rfl) (by kernel_rfl) (fun _ _ _ h => h) (Or.inl ⟨by kernel_rfl, ?_⟩) (by assumption) ?_
            rotate_left
            · intro w hSw; (try dsimp only at hSw); go_simp; try with_reducible rfl
            refine wpAnyH_take (i := 6) (v := ?_) rfl (by kernel_rfl) (by kernel_rfl) (by kernel_rfl) (fun _ _ _ h => h) (Or.inl ⟨by kernel_rfl, ?_⟩) (by assumption) ?_
            rotate_left
            · intro w hSw; (try dsimp only at hSw); go_simp; try with_reducible rfl
            refine wpAnyH_take (i := 7) (v := ?_) rfl (by kernel_rfl) (by kernel_rfl) (by kernel_rfl) (fun _ _ _ h => h) (Or.inl ⟨by kernel_rfl, ?_⟩) (by assumption) ?_
            rotate_left
            · intro w hSw; (try dsimp only at hSw); go_simp; try with_reducible rfl
            refine wpAnyH_take (i := 8) (v := ?_) rfl (by kernel_rfl) (by kernel_rfl) (by kernel_rfl) (fun _ _ _ h => h) (Or.inl ⟨by kernel_rfl, ?_⟩) (by assumption) ?_
            rotate_left
            · intro w hSw; (try dsimp only at hSw); go_simp; try with_reducible rfl
            refine wpAnyH_take (i := 9) (v := ?_) rfl (by kernel_rfl) (by kernel_rfl) (by kernel_rfl) (fun _ _ _ h => h) (Or.inl ⟨by kernel_rfl, ?_⟩) (by assumption) ?_
            rotate_left
            · intro w hSw; (try dsimp only at hSw); go_simp; try with_reducible rfl
            refine wpAnyH_take (i := 10) (v := ?_) rfl (by kernel_rfl) (by kernel_rfl) (by kernel_rfl) (fun _ _ _ h => h) (Or.inl ⟨by kernel_rfl, ?_⟩) (by assumption) ?_
            rotate_left
            · intro w hSw; (try dsimp only at hSw); go_simp; try with_reducible rfl
            refine wpAnyH_take (i := 11) (v := ?_) rfl (by kernel_rfl) (by kernel_rfl) (by kernel_rfl) (fun _ _ _ h => h) (Or.inl ⟨by kernel_rfl, ?_⟩) (by assumption) ?_
            rotate_left
            · intro w hSw; (try dsimp only at hSw); go_simp; try with_reducible rfl
            refine wpAnyH_done (by kernel_rfl) ?_ _
            try simp only [Act.put, List.setIfInBounds_toArray, List.set_cons_zero, List.set_cons_succ, List.getElem_toArray, List.getElem_cons_zero, List.getElem_cons_succ]
            have HOb : Hid (OutN B (World.drew wr) v L us) := Lib.hid (by exact HI.out.1)
            have HXb : Hid (NamK.Box2 (World.drew wr) w.heap.size (.string s) (.slice xa xn xc) 35) := Lib.hid (by exact HX2.out)
            have hnb : Below w.heap.size w (World.drew wr) := hnx.drew
            have hmlb : (L).length ≤ 1048576 := by have := HML.out; omega
            have HVb : Hid (∀ j, v.ownBlock = some j → w.heap.size < j) := Lib.hid (HVB.out)
            have d0 : (World.drew wr).cell? ⟨b, off + k * 2, none⟩ = some (.string rs) := (hnb.cell (p := ⟨b, _, none⟩) hb0).trans c0w
            have d1 : (World.drew wr).cell? ⟨b, off + k * 2 + 1, none⟩ = some (.slice ga gn gc) := (hnb.cell (p := ⟨b, _, none⟩) hb0).trans c1w
            have z0 := HXb.out.cells.1
            go_wp2_with fail
            refine wp_region_held_drew (S := (fun w' => (w'.cell? ⟨b, off + k * 2, none⟩ = some (.string rs) ∧ w'.cell? ⟨b, off + k * 2 + 1, none⟩ = some (.slice ga gn gc)) ∧ w'.cell? ⟨w.heap.size, 0, none⟩ = some (.string s))) (by kernel_rfl) ?_ (fun hHeld => ?_)
            · exact ⟨⟨d0, d1⟩, z0⟩
            refine wpAnyH_take (i := 0) (v := ?_) rfl (by kernel_rfl) (by kernel_rfl) (by kernel_rfl) (fun _ _ _ h => h) (Or.inl ⟨by kernel_rfl, ?_⟩) (by assumption) ?_
            rotate_left
            · intro w hSw; (try dsimp only at hSw); go_simp; try with_reducible rfl
            refine wpAnyH_take (i := 1) (v := ?_) rfl (by kernel_rfl) (by kernel_rfl) (by kernel_rfl) (fun _ _ _ h => h) (Or.inl ⟨by kernel_rfl, ?_⟩) (by assumption) ?_
            rotate_left
            · intro w hSw; (try dsimp only at hSw); go_simp; try with_reducible rfl
            refine wpAnyH_take (i := 2) (v := ?_) rfl (by kernel_rfl) (by kernel_rfl) (by kernel_rfl) (fun _ _ _ h => h) (Or.inl ⟨by kernel_rfl, ?_⟩) (by assumption) ?_
            rotate_left
            · intro w hSw; (try dsimp only at hSw); go_simp; try with_reducible rfl
            refine wpAnyH_take (i := 3) (v := ?_) rfl (by kernel_rfl) (by kernel_rfl) (by kernel_rfl) (fun _ _ _ h => h) (Or.inl ⟨by kernel_rfl, ?_⟩) (by assumption) ?_
            rotate_left
            · intro w hSw; (try dsimp only at hSw); go_simp; try with_reducible rfl
            refine wpAnyH_take (i := 4) (v := ?_) rfl (by kernel_rfl) (by kernel_rfl) (by kernel_rfl) (fun _ _ _ h => h) (Or.inl ⟨by kernel_rfl, ?_⟩) (by assumption) ?_
            rotate_left
            · intro w hSw; (try dsimp only at hSw); go_simp; try with_reducible rfl
            refine wpAnyH_take (i := 5) (v := ?_) rfl (by kernel_rfl) (by kernel_rfl) (by kernel_rfl) (fun _ _ _ h => h) (Or.inl ⟨by kernel_rfl, ?_⟩) (by assumption) ?_
            rotate_left
            · intro w hSw; (try dsimp only at hSw); go_simp; try with_reducible rfl
            refine wpAnyH_take (i := 6) (v := ?_) rfl (by kernel_rfl) (by kernel_rfl) (by kernel_rfl) (fun _ _ _ h => h) (Or.inl ⟨by kernel_rfl, ?_⟩) (by assumption) ?_
            rotate_left
            · intro w hSw; (try dsimp only at hSw); go_simp; try with_reducible rfl
            refine wpAnyH_take (i := 7) (v := ?_) rfl (by kernel_rfl) (by kernel_rfl) (by kernel_rfl) (fun _ _ _ h => h) (Or.inl ⟨by kernel_rfl, ?_⟩) (by assumption) ?_
            rotate_left
            · intro w hSw; (try dsimp only at hSw); go_simp; try with_reducible rfl
            refine wpAnyH_done (by kernel_rfl) ?_ _
            try simp only [Act.put, List.setIfInBounds_toArray, List.set_cons_zero, List.set_cons_succ, List.getElem_toArray, List.getElem_cons_zero, List.getElem_cons_succ]
            have I4 : Hid (PutI B w.heap.size (World.drew (World.drew wr)) v false L us (s, g) ts (k + 1)) := Lib.hid (PutI.skip (by exact HI.out) HT.out hes (.inr hnl))
            have HX4 : Hid (NamK.Box2 (World.drew (World.drew wr)) w.heap.size (.string s) (.slice xa xn xc) 35) := HX2
            have b4 := hnb.drew
            clear hHeld HI HX2 HXb HOb HVb hnb c0 c1 c0w c1w d0 d1 z0 HZ
            go_wp2_with fail
            go_roundw
            case rel => exact ⟨k + 1, _, false, _, _, by omega, by go_num, rfl, rfl, I4, HX4, b4⟩
            case measure => simp [intOf]; omega
          · have E1 := bytes_not hes
            have E3 : Op.bytesLess rs.toList s.toList = true := by
              rcases cmp_cases rs.toList s.toList with ⟨_, h⟩ | ⟨_, h⟩ | ⟨_, h⟩
              · exact h
              · rw [h] at E1; simp at E1
              · have h2 : Op.bytesLess s.toList rs.toList = false := hnl
                rw [h2] at h; cases h
            go_wp2_with fail
            refine wp_region_held_drew (S := (fun w' => (w'.cell? ⟨b, off + k * 2, none⟩ = some (.string rs) ∧ w'.cell? ⟨b, off + k * 2 + 1, none⟩ = some (.slice ga gn gc)) ∧ w'.cell? ⟨w.heap.size, 0, none⟩ = some (.string s))) (by kernel_rfl) ?_ (fun hHeld => ?_)
            · exact ⟨⟨c0, c1⟩, x0⟩
            refine wpAnyH_take (i := 0) (v := ?_) rfl (by kernel_rfl) (by kernel_rfl) (by kernel_rfl) (fun _ _ _ h => h) (Or.inl ⟨by kernel_rfl, ?_⟩) (by assumption) ?_
            rotate_left
            · intro w hSw; (try dsimp only at hSw); go_simp; try with_reducible rfl
            refine wpAnyH_take (i := 1) (v := ?_) rfl (by kernel_rfl) (by kernel_rfl) (by kernel_rfl) (fun _ _ _ h => h) (Or.inl ⟨by kernel_rfl, ?_⟩) (by assumption) ?_
            rotate_left
            · intro w hSw; (try dsimp only at hSw); go_simp; try with_reducible rfl
            refine wpAnyH_take (i := 2) (v := ?_) rfl (by kernel_rfl) (by kernel_rfl) (by kernel_rfl) (fun _ _ _ h => h) (Or.inl ⟨by kernel_rfl, ?_⟩) (by assumption) ?_
            rotate_left
            · intro w hSw; (try dsimp only at hSw); go_simp; try with_reducible rfl
            refine wpAnyH_take (i := 3) (v := ?_) rfl (by kernel_rfl) (by kernel_rfl) (by kernel_rfl) (fun _ _ _ h => h) (Or.inl ⟨by kernel_rfl, ?_⟩) (by assumption) ?_
            rotate_left
            · intro w hSw; (try dsimp only at hSw); go_simp; try with_reducible rfl
            refine wpAnyH_take (i := 4) (v := ?_) rfl (by kernel_rfl) (by kernel_rfl) (by kernel_rfl) (fun _ _ _ h => h) (Or.inl ⟨by kernel_rfl, ?_⟩) (by assumption) ?_
            rotate_left
            · intro w hSw; (try dsimp only at hSw); go_simp; try with_reducible rfl
            refine wpAnyH_take (i := 5) (v := ?_) rfl (by kernel_rfl) (by kernel_rfl) (by kernel_rfl) (fun _ _ _ h => h) (Or.inl ⟨by kernel_rfl, ?_⟩) (by assumption) ?_
            rotate_left
            · intro w hSw; (try dsimp only at hSw); go_simp; try with_reducible rfl
            refine wpAnyH_take (i := 6) (v := ?_) rfl (by kernel_rfl) (by kernel_rfl) (by kernel_rfl) (fun _ _ _ h => h) (Or.inl ⟨by kernel_rfl, ?_⟩) (by assumption) ?_
            rotate_left
            · intro w hSw; (try dsimp only at hSw); go_simp; try with_reducible rfl
            refine wpAnyH_take (i := 7) (v := ?_) rfl (by kernel_rfl) (by kernel_rfl) (by kernel_rfl) (fun _ _ _ h => h) (Or.inl ⟨by kernel_rfl, ?_⟩) (by assumption) ?_
            rotate_left
            · intro w hSw; (try dsimp only at hSw); go_simp; try with_reducible rfl
            refine wpAnyH_take (i := 8) (v := ?_) rfl (by kernel_rfl) (by kernel_rfl) (by kernel_rfl) (fun _ _ _ h => h) (Or.inl ⟨by kernel_rfl, ?_⟩) (by assumption) ?_
            rotate_left
            · intro w hSw; (try dsimp only at hSw); go_simp; try with_reducible rfl
            refine wpAnyH_take (i := 9) (v := ?_) rfl (by kernel_rfl) (by kernel_rfl) (by kernel_rfl) (fun _ _ _ h => h) (Or.inl ⟨by kernel_rfl, ?_⟩) (by assumption) ?_
            rotate_left
            · intro w hSw; (try dsimp only at hSw); go_simp; try with_reducible rfl
            refine wpAnyH_take (i := 10) (v := ?_) rfl (by kernel_rfl) (by kernel_rfl) (by kernel_rfl) (fun _ _ _ h => h) (Or.inl ⟨by kernel_rfl, ?_⟩) (by assumption) ?_
            rotate_left
            · intro w hSw; (try dsimp only at hSw); go_simp; try with_reducible rfl
            refine wpAnyH_take (i := 11) (v := ?_) rfl (by kernel_rfl) (by kernel_rfl) (by kernel_rfl) (fun _ _ _ h => h) (Or.inl ⟨by kernel_rfl, ?_⟩) (by assumption) ?_
            rotate_left
            · intro w hSw; (try dsimp only at hSw); go_simp; try with_reducible rfl
            refine wpAnyH_done (by kernel_rfl) ?_ _
            try simp only [Act.put, List.setIfInBounds_toArray, List.set_cons_zero, List.set_cons_succ, List.getElem_toArray, List.getElem_cons_zero, List.getElem_cons_succ]
            have HOb : Hid (OutN B (World.drew wr) v L us) := Lib.hid (by exact HI.out.1)
            have HXb : Hid (NamK.Box2 (World.drew wr) w.heap.size (.string s) (.slice xa xn xc) 35) := Lib.hid (by exact HX2.out)
            have hnb : Below w.heap.size w (World.drew wr) := hnx.drew
            have hmlb : (L).length ≤ 1048576 := by have := HML.out; omega
            have HVb : Hid (∀ j, v.ownBlock = some j → w.heap.size < j) := Lib.hid (HVB.out)
            have d0 : (World.drew wr).cell? ⟨b, off + k * 2, none⟩ = some (.string rs) := (hnb.cell (p := ⟨b, _, none⟩) hb0).trans c0w
            have d1 : (World.drew wr).cell? ⟨b, off + k * 2 + 1, none⟩ = some (.slice ga gn gc) := (hnb.cell (p := ⟨b, _, none⟩) hb0).trans c1w
            have z0 := HXb.out.cells.1
            go_wp2_with fail
            refine wp_region_held_drew (S := (fun w' => (w'.cell? ⟨b, off + k * 2, none⟩ = some (.string rs) ∧ w'.cell? ⟨b, off + k * 2 + 1, none⟩ = some (.slice ga gn gc)) ∧ w'.cell? ⟨w.heap.size, 0, none⟩ = some (.string s))) (by kernel_rfl) ?_ (fun hHeld => ?_)
            · exact ⟨⟨d0, d1⟩, z0⟩
            refine wpAnyH_take (i := 0) (v := ?_) rfl (by kernel_rfl) (by kernel_rfl) (by kernel_rfl) (fun _ _ _ h => h) (Or.inl ⟨by kernel_rfl, ?_⟩) (by assumption) ?_
            rotate_left
            · intro w hSw; (try dsimp only at hSw); go_simp; try with_reducible rfl
            refine wpAnyH_take (i := 1) (v := ?_) rfl (by kernel_rfl) (by kernel_rfl) (by kernel_rfl) (fun _ _ _ h => h) (Or.inl ⟨by kernel_rfl, ?_⟩) (by assumption) ?_
            rotate_left
            · intro w hSw; (try dsimp only at hSw); go_simp; try with_reducible rfl
            refine wpAnyH_take (i := 2) (v := ?_) rfl (by kernel_rfl) (by kernel_rfl) (by kernel_rfl) (fun _ _ _ h => h) (Or.inl ⟨by kernel_rfl, ?_⟩) (by assumption) ?_
            rotate_left
            · intro w hSw; (try dsimp only at hSw); go_simp; try with_reducible rfl
            refine wpAnyH_take (i := 3) (v := ?_) rfl (by kernel_rfl) (by kernel_rfl) (by kernel_rfl) (fun _ _ _ h => h) (Or.inl ⟨by kernel_rfl, ?_⟩) (by assumption) ?_
            rotate_left
            · intro w hSw; (try dsimp only at hSw); go_simp; try with_reducible rfl
            refine wpAnyH_take (i := 4) (v := ?_) rfl (by kernel_rfl) (by kernel_rfl) (by kernel_rfl) (fun _ _ _ h => h) (Or.inl ⟨by kernel_rfl, ?_⟩) (by assumption) ?_
            rotate_left
            · intro w hSw; (try dsimp only at hSw); go_simp; try with_reducible rfl
            refine wpAnyH_take (i := 5) (v := ?_) rfl (by kernel_rfl) (by kernel_rfl) (by kernel_rfl) (fun _ _ _ h => h) (Or.inl ⟨by kernel_rfl, ?_⟩) (by assumption) ?_
            rotate_left
            · intro w hSw; (try dsimp only at hSw); go_simp; try with_reducible rfl
            refine wpAnyH_take (i := 6) (v := ?_) rfl (by kernel_rfl) (by kernel_rfl) (by kernel_rfl) (fun _ _ _ h => h) (Or.inl ⟨by kernel_rfl, ?_⟩) (by assumption) ?_
            rotate_left
            · intro w hSw; (try dsimp only at hSw); go_simp; try with_reducible rfl
            refine wpAnyH_take (i := 7) (v := ?_) rfl (by kernel_rfl) (by kernel_rfl) (by kernel_rfl) (fun _ _ _ h => h) (Or.inl ⟨by kernel_rfl, ?_⟩) (by assumption) ?_
            rotate_left
            · intro w hSw; (try dsimp only at hSw); go_simp; try with_reducible rfl
            refine wpAnyH_done (by kernel_rfl) ?_ _
            try simp only [Act.put, List.setIfInBounds_toArray, List.set_cons_zero, List.set_cons_succ, List.getElem_toArray, List.getElem_cons_zero, List.getElem_cons_succ]
            go_wp2_with fail
            have hxb : w.heap.size < (World.drew wr).heap.size := HXb.out.lt
            have bW : Below w.heap.size w (World.alloc (World.drew (World.drew (World.drew wr))) (.cells #[] 26)) := (hnb.drew.drew).alloc (by exact hnb.size) _
            have HA := Lib.hid (cells_new (World.drew (World.drew (World.drew wr))) #[] 26).now
            refine wp_region_held_drew (S := (fun w' => (w'.cell? ⟨b, off + k * 2, none⟩ = some (.string rs) ∧ w'.cell? ⟨b, off + k * 2 + 1, none⟩ = some (.slice ga gn gc)) ∧ w'.cell? ⟨w.heap.size, 0, none⟩ = some (.string s))) (by kernel_rfl) ?_ (fun hHeld => ?_)
            · exact ⟨⟨d0, d1⟩, z0⟩
            refine wpAnyH_take (i := 0) (v := ?_) rfl (by kernel_rfl) (by kernel_rfl) (by kernel_rfl) (fun _ _ _ h => h) (Or.inl ⟨by kernel_rfl, ?_⟩) (by assumption) ?_
            rotate_left
            · intro w hSw; (try dsimp only at hSw); go_simp; try with_reducible rfl
            refine wpAnyH_take (i := 1) (v := ?_) rfl (by kernel_rfl) (by kernel_rfl) (by kernel_rfl) (fun _ _ _ h => h) (Or.inl ⟨by kernel_rfl, ?_⟩) (by assumption) ?_
            rotate_left
            · intro w hSw; (try dsimp only at hSw); go_simp; try with_reducible rfl
            refine wpAnyH_take (i := 2) (v := ?_) rfl (by kernel_rfl) (by kernel_rfl) (by kernel_rfl) (fun _ _ _ h => h) (Or.inl ⟨by kernel_rfl, ?_⟩) (by assumption) ?_
            rotate_left
            · intro w hSw; (try dsimp only at hSw); go_simp; try with_reducible rfl
            refine wpAnyH_take (i := 3) (v := ?_) rfl (by kernel_rfl) (by kernel_rfl) (by kernel_rfl) (fun _ _ _ h => h) (Or.inl ⟨by kernel_rfl, ?_⟩) (by assumption) ?_
            rotate_left
            · intro w hSw; (try dsimp only at hSw); go_simp; try with_reducible rfl
            refine wpAnyH_take (i := 4) (v := ?_) rfl (by kernel_rfl) (by kernel_rfl) (by kernel_rfl) (fun _ _ _ h => h) (Or.inl ⟨by kernel_rfl, ?_⟩) (by assumption) ?_
            rotate_left
            · intro w hSw; (try dsimp only at hSw); go_simp; try with_reducible rfl
            refine wpAnyH_take (i := 5) (v := ?_) rfl (by kernel_rfl) (by kernel_rfl) (by kernel_rfl) (fun _ _ _ h => h) (Or.inl ⟨by kernel_rfl, ?_⟩) (by assumption) ?_
            rotate_left
            · intro w hSw; (try dsimp only at hSw); go_simp; try with_reducible rfl
            refine wpAnyH_take (i := 7) (v := ?_) rfl (by kernel_rfl) (by kernel_rfl) (by kernel_rfl) (fun _ _ _ h => h) (Or.inl ⟨by kernel_rfl, ?_⟩) (by assumption) ?_
            rotate_left
            · intro w hSw; (try dsimp only at hSw); go_simp; try with_reducible rfl
            refine wpAnyH_take (i := 8) (v := ?_) rfl (by kernel_rfl) (by kernel_rfl) (by kernel_rfl) (fun _ _ _ h => h) (Or.inl ⟨by kernel_rfl, ?_⟩) (by assumption) ?_
            rotate_left
            · intro w hSw; (try dsimp only at hSw); go_simp; try with_reducible rfl
            refine wpAnyH_take (i := 9) (v := ?_) rfl (by kernel_rfl) (by kernel_rfl) (by kernel_rfl) (fun _ _ _ h => h) (Or.inl ⟨by kernel_rfl, ?_⟩) (by assumption) ?_
            rotate_left
            · intro w hSw; (try dsimp only at hSw); go_simp; try with_reducible rfl
            refine wpAnyH_take (i := 10) (v := ?_) rfl (by kernel_rfl) (by kernel_rfl) (by kernel_rfl) (fun _ _ _ h => h) (Or.inl ⟨by kernel_rfl, ?_⟩) (by assumption) ?_
            rotate_left
            · intro w hSw; (try dsimp only at hSw); go_simp; try with_reducible rfl
            refine wpAnyH_take (i := 11) (v := ?_) rfl (by kernel_rfl) (by kernel_rfl) (by kernel_rfl) (fun _ _ _ h => h) (Or.inl ⟨by kernel_rfl, ?_⟩) (by assumption) ?_
            rotate_left
            · intro w hSw; (try dsimp only at hSw); go_simp; try with_reducible rfl
            refine wpAnyH_ready (rs := [6]) (by kernel_rfl) (by simp) ?_
            refine AllReadyH.cons rfl (fun K hK => ?_) AllReadyH.nil
            go_simp
            clear hHeld
            refine hK.out _ _ ?_ (fun hHeld => ?_)
            · exact ⟨⟨(bW.cell (p := ⟨b, _, none⟩) hb0).trans c0w, (bW.cell (p := ⟨b, _, none⟩) hb0).trans c1w⟩, ((HXb.out.next ((Below.refl _ _).drew.drew)).alloc _).cells.1⟩
            clear hK K
            refine wpAnyH_ready (rs := [12]) (by kernel_rfl) (by simp) ?_
            refine AllReadyH.cons rfl (fun K hK => ?_) AllReadyH.nil
            refine upon_copyN _ _ (by rfl) _ (by rfl) HA.out ga gn gc rg (by rfl) (HZ.out.next bW) (by omega) ?_
            intro cv w2 j hj hjo hcv htu
            obtain ⟨qa, qc, hqe⟩ := own_slice_len hcv.now.1
            rw [hgn] at hqe
            subst hqe
            have hs1 : (World.drew (World.drew (World.drew wr))).heap.size ≤ (World.alloc (World.drew (World.drew (World.drew wr))) (.cells #[] 26)).heap.size := by rw [World.size_alloc]; exact Nat.le_succ _
            have b12 : Below (World.drew (World.drew (World.drew wr))).heap.size (World.drew (World.drew (World.drew wr))) w2 := ((Below.refl (World.drew (World.drew (World.drew wr))).heap.size (World.drew (World.drew (World.drew wr)))).alloc (Nat.le_refl _) _).trans (htu.below hs1 (Nat.le_refl _))
            have bb2 : Below (World.drew wr).heap.size (World.drew wr) w2 := ((Below.refl (World.drew wr).heap.size (World.drew wr)).drew.drew).trans (by exact b12)
            have b2w : Below w.heap.size w w2 := hnb.trans (bb2.mono hnb.size)
            have o2 : OutN B w2 v L us := HOb.out.next bb2
            have x2 := HXb.out.next bb2
            clear hHeld
            refine hK.out _ _ ?_ (fun hHeld => ?_)
            · exact ⟨⟨(b2w.cell (p := ⟨b, _, none⟩) hb0).trans c0w, (b2w.cell (p := ⟨b, _, none⟩) hb0).trans c1w⟩, x2.cells.1⟩
            clear hK K
            refine wpAnyH_take (i := 13) (v := ?_) rfl (by kernel_rfl) (by kernel_rfl) (by kernel_rfl) (fun _ _ _ h => h) (Or.inl ⟨by kernel_rfl, ?_⟩) (by assumption) ?_
            rotate_left
            · intro w hSw; (try dsimp only at hSw); go_simp; try with_reducible rfl
            refine wpAnyH_ready (rs := [14]) (by kernel_rfl) (by simp) ?_
            refine AllReadyH.cons rfl (fun K hK => ?_) AllReadyH.nil
            go_simp
            clear hHeld
            refine hK.out _ _ ?_ (fun hHeld => ?_)
            · exact ⟨⟨((b2w.alloc b2w.size _).cell (p := ⟨b, _, none⟩) hb0).trans c0w, ((b2w.alloc b2w.size _).cell (p := ⟨b, _, none⟩) hb0).trans c1w⟩, (x2.alloc _).cells.1⟩
            clear hK K
            have hj2 : j = (World.drew wr).heap.size ∨ j = (World.drew wr).heap.size + 1 := by rcases hj with e | e; (exact .inl e); (exact .inr (e.trans (World.size_alloc (World.drew wr) (.cells #[] 26))))
            have hjV : (World.drew wr).heap.size ≤ j := by omega
            have hjl : w.heap.size < j ∧ j < w2.heap.size := ⟨by omega, hcv.le⟩
            have eL : (w2.alloc (.cells #[.string rs, .slice qa gn qc] 35)).heap.size = w2.heap.size + 1 := World.size_alloc _ _
            have hBL : B ≤ (w2.alloc (.cells #[.string rs, .slice qa gn qc] 35)).heap.size := by have := b2w.size; omega
            have hqL := (NamK.Box2.new w2 (.string rs) (.slice qa gn qc) 35).cells
            have o3 := o2.next ((Below.refl w2.heap.size w2).alloc (Nat.le_refl _) (.cells #[.string rs, .slice qa gn qc] 35))
            have u3 : OwnT B (w2.alloc (.cells #[.string rs, .slice qa gn qc] 35)) (.slice qa gn qc) rg := own_base (hcv.alloc _).now.1 (by omega)
            refine wpAnyH_ready (rs := [15]) (by kernel_rfl) (by simp) ?_
            refine AllReadyH.cons rfl (fun K hK => ?_) AllReadyH.nil
            refine upon_moreN (B := B) (t := (rs, rg)) (u := .slice qa gn qc) _ _ (by rfl) (by rfl) o3 hBL w2.heap.size (by rfl) hqL u3 (fun y hy i hi e => by have h1 := (HOb.out.lt y hy i hi).2; rw [hjo] at e; have := Option.some.inj e; omega) (fun i hi e => by have h1 := (World.ownsRow.lt HOb.out.1 i e).2; rw [hjo] at hi; have := Option.some.inj hi; omega) hmlb ?_
            intro v4 w4 o4 hg4 hat4
            have x4 : NamK.Box2 w4 w.heap.size (.string s) (.slice xa xn xc) 35 := (hg4.block _ (x2.alloc _).lt (fun e => Nat.lt_irrefl _ (HVb.out _ e.symm))).trans (x2.alloc _)
            have b4 := (b2w.alloc b2w.size (.cells #[.string rs, .slice qa gn qc] 35)).grown hg4 (b2w.alloc b2w.size _).size (fun i hi => Nat.le_of_lt (HVb.out i hi))
            have hv4 : ∀ i, v4.ownBlock = some i → w.heap.size < i := by
              intro i hi
              rcases hat4 with e | e
              · exact HVb.out i (e ▸ hi)
              · rw [e] at hi; have h9 := Option.some.inj hi; have := b2w.size; omega
            have cell4 : ∀ p : Addr, p.block < w.heap.size → w4.cell? p = w.cell? p := fun p hp => b4.cell hp
            clear hHeld
            refine hK.out _ _ ?_ (fun hHeld => ?_)
            · exact ⟨⟨(cell4 ⟨b, _, none⟩ hb0).trans c0w, (cell4 ⟨b, _, none⟩ hb0).trans c1w⟩, x4.cells.1⟩
            clear hK K
            refine wpAnyH_take (i := 16) (v := ?_) rfl (by kernel_rfl) (by kernel_rfl) (by kernel_rfl) (fun _ _ _ h => h) (Or.inl ⟨by kernel_rfl, ?_⟩) (by assumption) ?_
            rotate_left
            · intro w hSw; (try dsimp only at hSw); go_simp; try with_reducible rfl
            refine wpAnyH_done (by kernel_rfl) ?_ _
            try simp only [Act.put, List.setIfInBounds_toArray, List.set_cons_zero, List.set_cons_succ, List.getElem_toArray, List.getElem_cons_zero, List.getElem_cons_succ]
            have I4 : Hid (PutI B w.heap.size w4 v4 false (L ++ [(rs, rg)]) (us ++ [.slice qa gn qc]) (s, g) ts (k + 1)) := Lib.hid (HI.out.copy HT.out hes (.inr hnl) o4 (fun i hi => by rw [hjo] at hi; cases hi; omega) hv4)
            have HX4 := Lib.hid x4
            clear hHeld o4 hg4 hat4 x4 hv4 cell4 x2 o2 o3 u3 b2w hcv htu HA bW HZ HI HX2 HXb HOb HVb hnb c0 c1 c0w c1w d0 d1 z0
            go_wp2_with fail
            go_roundw
            case rel => exact ⟨k + 1, _, false, _, _, by omega, by go_num, rfl, rfl, I4, HX4, b4⟩
            case measure => simp [intOf]; omega
      · go_wp2_with fail
        refine wp_region_any (by kernel_rfl) ?_
        change wpAny _ _ _ _ _ _ _ (World.drew _)
        refine wpAny_take (i := 0) (v := ?_) rfl (by kernel_rfl) (by kernel_rfl) (by kernel_rfl) (fun _ _ _ h => h) (Or.inl ⟨by kernel_rfl, ?_⟩) ?_
        rotate_left
        · intro w; go_simp; try with_reducible rfl
        refine wpAny_take (i := 1) (v := ?_) rfl (by kernel_rfl) (by kernel_rfl) (by kernel_rfl) (fun _ _ _ h => h) (Or.inl ⟨by kernel_rfl, ?_⟩) ?_
        rotate_left
        · intro w; go_simp; try with_reducible rfl
        refine wpAny_take (i := 2) (v := ?_) rfl (by kernel_rfl) (by kernel_rfl) (by kernel_rfl) (fun _ _ _ h => h) (Or.inl ⟨by kernel_rfl, ?_⟩) ?_
        rotate_left
        · intro w; go_simp; try with_reducible rfl
        refine wpAny_take (i := 3) (v := undef) rfl (by kernel_rfl) (by kernel_rfl) (by kernel_rfl) (fun _ _ _ h => h) (Or.inr ⟨by kernel_rfl, rfl⟩) ?_
        refine wpAny_take (i := 4) (v := undef) rfl (by kernel_rfl) (by kernel_rfl) (by kernel_rfl) (fun _ _ _ h => h) (Or.inr ⟨by kernel_rfl, rfl⟩) ?_
        refine wpAny_take (i := 5) (v := undef) rfl (by kernel_rfl) (by kernel_rfl) (by kernel_rfl) (fun _ _ _ h => h) (Or.inr ⟨by kernel_rfl, rfl⟩) ?_
        refine wpAny_take (i := 6) (v := undef) rfl (by kernel_rfl) (by kernel_rfl) (by kernel_rfl) (fun _ _ _ h => h) (Or.inr ⟨by kernel_rfl, rfl⟩) ?_
        refine wpAny_take (i := 7) (v := undef) rfl (by kernel_rfl) (by kernel_rfl) (by kernel_rfl) (fun _ _ _ h => h) (Or.inr ⟨by kernel_rfl, rfl⟩) ?_
        refine wpAny_take (i := 8) (v := undef) rfl (by kernel_rfl) (by kernel_rfl) (by kernel_rfl) (fun _ _ _ h => h) (Or.inr ⟨by kernel_rfl, rfl⟩) ?_
        refine wpAny_take (i := 9) (v := undef) rfl (by kernel_rfl) (by kernel_rfl) (by kernel_rfl) (fun _ _ _ h => h) (Or.inr ⟨by kernel_rfl, rfl⟩) ?_
        refine wpAny_take (i := 10) (v := undef) rfl (by kernel_rfl) (by kernel_rfl) (by kernel_rfl) (fun _ _ _ h => h) (Or.inr ⟨by kernel_rfl, rfl⟩) ?_
        refine wpAny_take (i := 11) (v := ?_) rfl (by kernel_rfl) (by kernel_rfl) (by kernel_rfl) (fun _ _ _ h => h) (Or.inl ⟨by kernel_rfl, ?_⟩) ?_
        rotate_left
        · intro w; go_simp; try with_reducible rfl
        refine wpAny_done (by kernel_rfl) ?_ _
        try simp only [Act.put, List.setIfInBounds_toArray, List.set_cons_zero, List.set_cons_succ, List.getElem_toArray, List.getElem_cons_zero, List.getElem_cons_succ]
        have HOb : Hid (OutN B (World.drew wr) v L us) := Lib.hid (by exact HI.out.1)
        have HXb : Hid (NamK.Box2 (World.drew wr) w.heap.size (.string s) (.slice xa xn xc) 35) := Lib.hid (by exact HX2.out)
        have hnb : Below w.heap.size w (World.drew wr) := hnx.drew
        have hmlb : (L).length ≤ 1048576 := by have := HML.out; omega
        have HVb : Hid (∀ j, v.ownBlock = some j → w.heap.size < j) := Lib.hid (HVB.out)
        have d0 : (World.drew wr).cell? ⟨b, off + k * 2, none⟩ = some (.string rs) := (hnb.cell (p := ⟨b, _, none⟩) hb0).trans c0w
        have d1 : (World.drew wr).cell? ⟨b, off + k * 2 + 1, none⟩ = some (.slice ga gn gc) := (hnb.cell (p := ⟨b, _, none⟩) hb0).trans c1w
        have z0 := HXb.out.cells.1
        by_cases hes : rs = s
        · have E1 := bytes_is hes
          go_wp2_with fail
          refine wp_region_held_drew (S := (fun w' => (w'.cell? ⟨b, off + k * 2, none⟩ = some (.string rs) ∧ w'.cell? ⟨b, off + k * 2 + 1, none⟩ = some (.slice ga gn gc)) ∧ w'.cell? ⟨w.heap.size, 0, none⟩ = some (.string s))) (by kernel_rfl) ?_ (fun hHeld => ?_)
          · exact ⟨⟨d0, d1⟩, z0⟩
          refine wpAnyH_take (i := 0) (v := ?_) rfl (by kernel_rfl) (by kernel_rfl) (by kernel_rfl) (fun _ _ _ h => h) (Or.inl ⟨by kernel_rfl, ?_⟩) (by assumption) ?_
          rotate_left
          · intro w hSw; (try dsimp only at hSw); go_simp; try with_reducible rfl
          refine wpAnyH_take (i := 1) (v := ?_) rfl (by kernel_rfl) (by kernel_rfl) (by kernel_rfl) (fun _ _ _ h => h) (Or.inl ⟨by kernel_rfl, ?_⟩) (by assumption) ?_
          rotate_left
          · intro w hSw; (try dsimp only at hSw); go_simp; try with_reducible rfl
          refine wpAnyH_take (i := 2) (v := ?_) rfl (by kernel_rfl) (by kernel_rfl) (by kernel_rfl) (fun _ _ _ h => h) (Or.inl ⟨by kernel_rfl, ?_⟩) (by assumption) ?_
          rotate_left
          · intro w hSw; (try dsimp only at hSw); go_simp; try with_reducible rfl
          refine wpAnyH_take (i := 3) (v := ?_) rfl (by kernel_rfl) (by kernel_rfl) (by kernel_rfl) (fun _ _ _ h => h) (Or.inl ⟨by kernel_rfl, ?_⟩) (by assumption) ?_
          rotate_left
          · intro w hSw; (try dsimp only at hSw); go_simp; try with_reducible rfl
          refine wpAnyH_take (i := 4) (v := ?_) rfl (by kernel_rfl) (by kernel_rfl) (by kernel_rfl) (fun _ _ _ h => h) (Or.inl ⟨by kernel_rfl, ?_⟩) (by assumption) ?_
          rotate_left
          · intro w hSw; (try dsimp only at hSw); go_simp; try with_reducible rfl
          refine wpAnyH_take (i := 5) (v := ?_) rfl (by kernel_rfl) (by kernel_rfl) (by kernel_rfl) (fun _ _ _ h => h) (Or.inl ⟨by kernel_rfl, ?_⟩) (by assumption) ?_
          rotate_left
          · intro w hSw; (try dsimp only at hSw); go_simp; try with_reducible rfl
          refine wpAnyH_take (i := 6) (v := ?_) rfl (by kernel_rfl) (by kernel_rfl) (by kernel_rfl) (fun _ _ _ h => h) (Or.inl ⟨by kernel_rfl, ?_⟩) (by assumption) ?_
          rotate_left
          · intro w hSw; (try dsimp only at hSw); go_simp; try with_reducible rfl
          refine wpAnyH_take (i := 7) (v := ?_) rfl (by kernel_rfl) (by kernel_rfl) (by kernel_rfl) (fun _ _ _ h => h) (Or.inl ⟨by kernel_rfl, ?_⟩) (by assumption) ?_
          rotate_left
          · intro w hSw; (try dsimp only at hSw); go_simp; try with_reducible rfl
          refine wpAnyH_done (by kernel_rfl) ?_ _
          try simp only [Act.put, List.setIfInBounds_toArray, List.set_cons_zero, List.set_cons_succ, List.getElem_toArray, List.getElem_cons_zero, List.getElem_cons_succ]
          have I4 : Hid (PutI B w.heap.size (World.drew (World.drew wr)) v true L us (s, g) ts (k + 1)) := Lib.hid (PutI.skip (by exact HI.out) HT.out hes (.inl rfl))
          have HX4 : Hid (NamK.Box2 (World.drew (World.drew wr)) w.heap.size (.string s) (.slice xa xn xc) 35) := HX2
          have b4 := hnb.drew
          clear hHeld HI HX2 HXb HOb HVb hnb c0 c1 c0w c1w d0 d1 z0 HZ
          go_wp2_with fail
          go_roundw
          case rel => exact ⟨k + 1, _, true, _, _, by omega, by go_num, rfl, rfl, I4, HX4, b4⟩
          case measure => simp [intOf]; omega
        · have E1 := bytes_not hes
          go_wp2_with fail
          refine wp_region_held_drew (S := (fun w' => (w'.cell? ⟨b, off + k * 2, none⟩ = some (.string rs) ∧ w'.cell? ⟨b, off + k * 2 + 1, none⟩ = some (.slice ga gn gc)) ∧ w'.cell? ⟨w.heap.size, 0, none⟩ = some (.string s))) (by kernel_rfl) ?_ (fun hHeld => ?_)
          · exact ⟨⟨d0, d1⟩, z0⟩
          refine wpAnyH_take (i := 0) (v := ?_) rfl (by kernel_rfl) (by kernel_rfl) (by kernel_rfl) (fun _ _ _ h => h) (Or.inl ⟨by kernel_rfl, ?_⟩) (by assumption) ?_
          rotate_left
          · intro w hSw; (try dsimp only at hSw); go_simp; try with_reducible rfl
          refine wpAnyH_take (i := 1) (v := ?_) rfl (by kernel_rfl) (by kernel_rfl) (by kernel_rfl) (fun _ _ _ h => h) (Or.inl ⟨by kernel_rfl, ?_⟩) (by assumption) ?_
          rotate_left
          · intro w hSw; (try dsimp only at hSw); go_simp; try with_reducible rfl
          refine wpAnyH_take (i := 2) (v := ?_) rfl (by kernel_rfl) (by kernel_rfl) (by kernel_rfl) (fun _ _ _ h => h) (Or.inl ⟨by kernel_rfl, ?_⟩) (by assumption) ?_
          rotate_left
          · intro w hSw; (try dsimp only at hSw); go_simp; try with_reducible rfl
          refine wpAnyH_take (i := 3) (v := ?_) rfl (by kernel_rfl) (by kernel_rfl) (by kernel_rfl) (fun _ _ _ h => h) (Or.inl ⟨by kernel_rfl, ?_⟩) (by assumption) ?_
          rotate_left
          · intro w hSw; (try dsimp only at hSw); go_simp; try with_reducible rfl
          refine wpAnyH_take (i := 4) (v := ?_) rfl (by kernel_rfl) (by kernel_rfl) (by kernel_rfl) (fun _ _ _ h => h) (Or.inl ⟨by kernel_rfl, ?_⟩) (by assumption) ?_
          rotate_left
          · intro w hSw; (try dsimp only at hSw); go_simp; try with_reducible rfl
          refine wpAnyH_take (i := 5) (v := ?_) rfl (by kernel_rfl) (by kernel_rfl) (by kernel_rfl) (fun _ _ _ h => h) (Or.inl ⟨by kernel_rfl, ?_⟩) (by assumption) ?_
          rotate_left
          · intro w hSw; (try dsimp only at hSw); go_simp; try with_reducible rfl
          refine wpAnyH_take (i := 6) (v := ?_) rfl (by kernel_rfl) (by kernel_rfl) (by kernel_rfl) (fun _ _ _ h => h) (Or.inl ⟨by kernel_rfl, ?_⟩) (by assumption) ?_
          rotate_left
          · intro w hSw; (try dsimp only at hSw); go_simp; try with_reducible rfl
          refine wpAnyH_take (i := 7) (v := ?_) rfl (by kernel_rfl) (by kernel_rfl) (by kernel_rfl) (fun _ _ _ h => h) (Or.inl ⟨by kernel_rfl, ?_⟩) (by assumption) ?_
          rotate_left
          · intro w hSw; (try dsimp only at hSw); go_simp; try with_reducible rfl
          refine wpAnyH_done (by kernel_rfl) ?_ _
          try simp only [Act.put, List.setIfInBounds_toArray, List.set_cons_zero, List.set_cons_succ, List.getElem_toArray, List.getElem_cons_zero, List.getElem_cons_succ]
          go_wp2_with fail
          have hxb : w.heap.size < (World.drew wr).heap.size := HXb.out.lt
          have bW : Below w.heap.size w (World.alloc (World.drew (World.drew (World.drew wr))) (.cells #[] 26)) := (hnb.drew.drew).alloc (by exact hnb.size) _
          have HA := Lib.hid (cells_new (World.drew (World.drew (World.drew wr))) #[] 26).now
          refine wp_region_held_drew (S := (fun w' => (w'.cell? ⟨b, off + k * 2, none⟩ = some (.string rs) ∧ w'.cell? ⟨b, off + k * 2 + 1, none⟩ = some (.slice ga gn gc)) ∧ w'.cell? ⟨w.heap.size, 0, none⟩ = some (.string s))) (by kernel_rfl) ?_ (fun hHeld => ?_)
          · exact ⟨⟨d0, d1⟩, z0⟩
          refine wpAnyH_take (i := 0) (v := ?_) rfl (by kernel_rfl) (by kernel_rfl) (by kernel_rfl) (fun _ _ _ h => h) (Or.inl ⟨by kernel_rfl, ?_⟩) (by assumption) ?_
          rotate_left
          · intro w hSw; (try dsimp only at hSw); go_simp; try with_reducible rfl
          refine wpAnyH_take (i := 1) (v := ?_) rfl (by kernel_rfl) (by kernel_rfl) (by kernel_rfl) (fun _ _ _ h => h) (Or.inl ⟨by kernel_rfl, ?_⟩) (by assumption) ?_
          rotate_left
          · intro w hSw; (try dsimp only at hSw); go_simp; try with_reducible rfl
          refine wpAnyH_take (i := 2) (v := ?_) rfl (by kernel_rfl) (by kernel_rfl) (by kernel_rfl) (fun _ _ _ h => h) (Or.inl ⟨by kernel_rfl, ?_⟩) (by assumption) ?_
          rotate_left
          · intro w hSw; (try dsimp only at hSw); go_simp; try with_reducible rfl
          refine wpAnyH_take (i := 3) (v := ?_) rfl (by kernel_rfl) (by kernel_rfl) (by kernel_rfl) (fun _ _ _ h => h) (Or.inl ⟨by kernel_rfl, ?_⟩) (by assumption) ?_
          rotate_left
          · intro w hSw; (try dsimp only at hSw); go_simp; try with_reducible rfl
          refine wpAnyH_take (i := 4) (v := ?_) rfl (by kernel_rfl) (by kernel_rfl) (by kernel_rfl) (fun _ _ _ h => h) (Or.inl ⟨by kernel_rfl, ?_⟩) (by assumption) ?_
          rotate_left
          · intro w hSw; (try dsimp only at hSw); go_simp; try with_reducible rfl
          refine wpAnyH_take (i := 5) (v := ?_) rfl (by kernel_rfl) (by kernel_rfl) (by kernel_rfl) (fun _ _ _ h => h) (Or.inl ⟨by kernel_rfl, ?_⟩) (by assumption) ?_
          rotate_left
          · intro w hSw; (try dsimp only at hSw); go_simp; try with_reducible rfl
          refine wpAnyH_take (i := 7) (v := ?_) rfl (by kernel_rfl) (by kernel_rfl) (by kernel_rfl) (fun _ _ _ h => h) (Or.inl ⟨by kernel_rfl, ?_⟩) (by assumption) ?_
          rotate_left
          · intro w hSw; (try dsimp only at hSw); go_simp; try with_reducible rfl
          refine wpAnyH_take (i := 8) (v := ?_) rfl (by kernel_rfl) (by kernel_rfl) (by kernel_rfl) (fun _ _ _ h => h) (Or.inl ⟨by kernel_rfl, ?_⟩) (by assumption) ?_
          rotate_left
          · intro w hSw; (try dsimp only at hSw); go_simp; try with_reducible rfl
          refine wpAnyH_take (i := 9) (v := ?_) rfl (by kernel_rfl) (by kernel_rfl) (by kernel_rfl) (fun _ _ _ h => h) (Or.inl ⟨by kernel_rfl, ?_⟩) (by assumption) ?_
          rotate_left
          · intro w hSw; (try dsimp only at hSw); go_simp; try with_reducible rfl
          refine wpAnyH_take (i := 10) (v := ?_) rfl (by kernel_rfl) (by kernel_rfl) (by kernel_rfl) (fun _ _ _ h => h) (Or.inl ⟨by kernel_rfl, ?_⟩) (by assumption) ?_
          rotate_left
          · intro w hSw; (try dsimp only at hSw); go_simp; try with_reducible rfl
          refine wpAnyH_take (i := 11) (v := ?_) rfl (by kernel_rfl) (by kernel_rfl) (by kernel_rfl) (fun _ _ _ h => h) (Or.inl ⟨by kernel_rfl, ?_⟩) (by assumption) ?_
          rotate_left
          · intro w hSw; (try dsimp only at hSw); go_simp; try with_reducible rfl
          refine wpAnyH_ready (rs := [6]) (by kernel_rfl) (by simp) ?_
          refine AllReadyH.cons rfl (fun K hK => ?_) AllReadyH.nil
          go_simp
          clear hHeld
          refine hK.out _ _ ?_ (fun hHeld => ?_)
          · exact ⟨⟨(bW.cell (p := ⟨b, _, none⟩) hb0).trans c0w, (bW.cell (p := ⟨b, _, none⟩) hb0).trans c1w⟩, ((HXb.out.next ((Below.refl _ _).drew.drew)).alloc _).cells.1⟩
          clear hK K
          refine wpAnyH_ready (rs := [12]) (by kernel_rfl) (by simp) ?_
          refine AllReadyH.cons rfl (fun K hK => ?_) AllReadyH.nil
          refine upon_copyN _ _ (by rfl) _ (by rfl) HA.out ga gn gc rg (by rfl) (HZ.out.next bW) (by omega) ?_
          intro cv w2 j hj hjo hcv htu
          obtain ⟨qa, qc, hqe⟩ := own_slice_len hcv.now.1
          rw [hgn] at hqe
          subst hqe
          have hs1 : (World.drew (World.drew (World.drew wr))).heap.size ≤ (World.alloc (World.drew (World.drew (World.drew wr))) (.cells #[] 26)).heap.size := by rw [World.size_alloc]; exact Nat.le_succ _
          have b12 : Below (World.drew (World.drew (World.drew wr))).heap.size (World.drew (World.drew (World.drew wr))) w2 := ((Below.refl (World.drew (World.drew (World.drew wr))).heap.size (World.drew (World.drew (World.drew wr)))).alloc (Nat.le_refl _) _).trans (htu.below hs1 (Nat.le_refl _))
          have bb2 : Below (World.drew wr).heap.size (World.drew wr) w2 := ((Below.refl (World.drew wr).heap.size (World.drew wr)).drew.drew).trans (by exact b12)
          have b2w : Below w.heap.size w w2 := hnb.trans (bb2.mono hnb.size)
          have o2 : OutN B w2 v L us := HOb.out.next bb2
          have x2 := HXb.out.next bb2
          clear hHeld
          refine hK.out _ _ ?_ (fun hHeld => ?_)
          · exact ⟨⟨(b2w.cell (p := ⟨b, _, none⟩) hb0).trans c0w, (b2w.cell (p := ⟨b, _, none⟩) hb0).trans c1w⟩, x2.cells.1⟩
          clear hK K
          refine wpAnyH_take (i := 13) (v := ?_) rfl (by kernel_rfl) (by kernel_rfl) (by kernel_rfl) (fun _ _ _ h => h) (Or.inl ⟨by kernel_rfl, ?_⟩) (by assumption) ?_
          rotate_left
          · intro w hSw; (try dsimp only at hSw); go_simp; try with_reducible rfl
          refine wpAnyH_ready (rs := [14]) (by kernel_rfl) (by simp) ?_
          refine AllReadyH.cons rfl (fun K hK => ?_) AllReadyH.nil
          go_simp
          clear hHeld
          refine hK.out _ _ ?_ (fun hHeld => ?_)
          · exact ⟨⟨((b2w.alloc b2w.size _).cell (p := ⟨b, _, none⟩) hb0).trans c0w, ((b2w.alloc b2w.size _).cell (p := ⟨b, _, none⟩) hb0).trans c1w⟩, (x2.alloc _).cells.1⟩
          clear hK K
          have hj2 : j = (World.drew wr).heap.size ∨ j = (World.drew wr).heap.size + 1 := by rcases hj with e | e; (exact .inl e); (exact .inr (e.trans (World.size_alloc (World.drew wr) (.cells #[] 26))))
          have hjV : (World.drew wr).heap.size ≤ j := by omega
          have hjl : w.heap.size < j ∧ j < w2.heap.size := ⟨by omega, hcv.le⟩
          have eL : (w2.alloc (.cells #[.string rs, .slice qa gn qc] 35)).heap.size = w2.heap.size + 1 := World.size_alloc _ _
          have hBL : B ≤ (w2.alloc (.cells #[.string rs, .slice qa gn qc] 35)).heap.size := by have := b2w.size; omega
          have hqL := (NamK.Box2.new w2 (.string rs) (.slice qa gn qc) 35).cells
          have o3 := o2.next ((Below.refl w2.heap.size w2).alloc (Nat.le_refl _) (.cells #[.string rs, .slice qa gn qc] 35))
          have u3 : OwnT B (w2.alloc (.cells #[.string rs, .slice qa gn qc] 35)) (.slice qa gn qc) rg := own_base (hcv.alloc _).now.1 (by omega)
          refine wpAnyH_ready (rs := [15]) (by kernel_rfl) (by simp) ?_
          refine AllReadyH.cons rfl (fun K hK => ?_) AllReadyH.nil
          refine upon_moreN (B := B) (t := (rs, rg)) (u := .slice qa gn qc) _ _ (by rfl) (by rfl) o3 hBL w2.heap.size (by rfl) hqL u3 (fun y hy i hi e => by have h1 := (HOb.out.lt y hy i hi).2; rw [hjo] at e; have := Option.some.inj e; omega) (fun i hi e => by have h1 := (World.ownsRow.lt HOb.out.1 i e).2; rw [hjo] at hi; have := Option.some.inj hi; omega) hmlb ?_
          intro v4 w4 o4 hg4 hat4
          have x4 : NamK.Box2 w4 w.heap.size (.string s) (.slice xa xn xc) 35 := (hg4.block _ (x2.alloc _).lt (fun e => Nat.lt_irrefl _ (HVb.out _ e.symm))).trans (x2.alloc _)
          have b4 := (b2w.alloc b2w.size (.cells #[.string rs, .slice qa gn qc] 35)).grown hg4 (b2w.alloc b2w.size _).size (fun i hi => Nat.le_of_lt (HVb.out i hi))
          have hv4 : ∀ i, v4.ownBlock = some i → w.heap.size < i := by
            intro i hi
            rcases hat4 with e | e
            · exact HVb.out i (e ▸ hi)
            · rw [e] at hi; have h9 := Option.some.inj hi; have := b2w.size; omega
          have cell4 : ∀ p : Addr, p.block < w.heap.size → w4.cell? p = w.cell? p := fun p hp => b4.cell hp
          clear hHeld
          refine hK.out _ _ ?_ (fun hHeld => ?_)
          · exact ⟨⟨(cell4 ⟨b, _, none⟩ hb0).trans c0w, (cell4 ⟨b, _, none⟩ hb0).trans c1w⟩, x4.cells.1⟩
          clear hK K
          refine wpAnyH_take (i := 16) (v := ?_) rfl (by kernel_rfl) (by kernel_rfl) (by kernel_rfl) (fun _ _ _ h => h) (Or.inl ⟨by kernel_rfl, ?_⟩) (by assumption) ?_
          rotate_left
          · intro w hSw; (try dsimp only at hSw); go_simp; try with_reducible rfl
          refine wpAnyH_done (by kernel_rfl) ?_ _
          try simp only [Act.put, List.setIfInBounds_toArray, List.set_cons_zero, List.set_cons_succ, List.getElem_toArray, List.getElem_cons_zero, List.getElem_cons_succ]
          have I4 : Hid (PutI B w.heap.size w4 v4 true (L ++ [(rs, rg)]) (us ++ [.slice qa gn qc]) (s, g) ts (k + 1)) := Lib.hid (HI.out.copy HT.out hes (.inl rfl) o4 (fun i hi => by rw [hjo] at hi; cases hi; omega) hv4)
          have HX4 := Lib.hid x4
          clear hHeld o4 hg4 hat4 x4 hv4 cell4 x2 o2 o3 u3 b2w hcv htu HA bW HZ HI HX2 HXb HOb HVb hnb c0 c1 c0w c1w d0 d1 z0
          go_wp2_with fail
          go_roundw
          case rel => exact ⟨k + 1, _, true, _, _, by omega, by go_num, rfl, rfl, I4, HX4, b4⟩
          case measure => simp [intOf]; omega
    · obtain rfl : k = len := by omega
      have HF : Hid (L ++ putGo (s, g) d [] = putNam ts (s, g)) := Lib.hid (by
        have := HI.out.2.1
        rwa [List.drop_of_length_le (by rw [HL.out]; exact Nat.le_refl _)] at this)
      have HML := Lib.hid (HI.out.most HTL.out)
      have HVB : Hid (∀ j, v.ownBlock = some j → w.heap.size < j) := Lib.hid HI.out.2.2.2
      have HXL : Hid (∀ j, (Value.slice xa xn xc).ownBlock = some j → j < w.heap.size) := Lib.hid (fun j hj => (World.ownsRow.lt HX.out j hj).2)
      have HXO : Hid (OwnT B wr (.slice xa xn xc) g) := Lib.hid (ownTN_kept HX.out hnx)
      have hxw : w.heap.size < wr.heap.size := HX2.out.lt
      obtain ⟨x0, x1⟩ := HX2.out.cells
      cases d
      · have HBa : B ≤ (wr.alloc (.cells #[.string s, .slice xa xn xc] 35)).heap.size := by rw [World.size_alloc]; omega
        have bLa : Below wr.heap.size wr (wr.alloc (.cells #[.string s, .slice xa xn xc] 35)) := (Below.refl _ _).alloc (Nat.le_refl _) _
        have qa := (NamK.Box2.new wr (.string s) (.slice xa xn xc) 35).cells
        go_wp2_with (at_builtin; go_loud (refine wpList_moreN (B := B) (t := (s, g)) (u := .slice xa xn xc) (L := L) (us := us) rfl _ _ rfl rfl (HI.out.1.next bLa) HBa wr.heap.size rfl qa (ownTN_kept HXO.out bLa) (fun y hy j hj e => by have h1 := HI.out.2.2.1 rfl y hy j hj; have h2 := HXL.out j e; omega) (fun j hj e => by have h1 := HVB.out j e; have h2 := HXL.out j hj; omega) (by have := HML.out; omega) ?_))
        intro v5 w5 o5 hg5 hat5
        have n5 : Below w.heap.size w w5 := (hnx.trans (bLa.mono hnx.size)).grown hg5 (hnx.trans (bLa.mono hnx.size)).size (fun i hi => Nat.le_of_lt (HVB.out i hi))
        have e5 : L ++ [(s, g)] = putNam ts (s, g) := HF.out
        rw [e5] at o5
        have HO5 := Lib.hid o5.own
        clear o5 hg5 hat5
        go_wp2_with fail
        go_ret
        exact ⟨_, rfl, HO5.out, n5⟩
      · have e5 : L = putNam ts (s, g) := by rw [← HF.out]; simp [putGo]
        have HO5 : Hid (OwnNs B wr v (putNam ts (s, g))) := Lib.hid (by rw [← e5]; exact HI.out.1.own)
        go_wp2_with fail
        go_ret
        exact ⟨_, rfl, HO5.out, hnx⟩
end Go.Proofs.YtnjphlaohihbaaaGreat
