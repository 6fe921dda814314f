/- A graph whose blanks are called otherwise: the specification. -/
import Derived.Test.YtobmcngmcmhebaaRowM
import Derived.Test.YtobmcngmcmhebaaExactR2
import Derived.Test.YtobmcngmcmhebaaSetM
import Derived.Test.YtobmcngmcmhebaaWithI
import Derived.Test.YtobmcngmcmhebaaGraph
import Derived.Test.YtobmcngmcmhebaaSpecL
import Derived.Test.YtobmcngmcmhebaaOwnG
import Derived.Deep.RegionHeld3
namespace Go.Proofs.Ytobmcngmcmhebaa
open Go.RowKit Go.WideShapes
/-- What a triple is, its blanks called as l says. -/
def renT (l : List Pre2) (t : Tri3) : Tri3 := (seen l t.1, t.2.1, seen l t.2.2)
def renAll (l : List Pre2) (ts : List Tri3) : List Tri3 := (ts.map (renT l)).foldl putT []
theorem renAll_snoc (l : List Pre2) (ts : List Tri3) (t : Tri3) : renAll l (ts ++ [t]) = putT (renAll l ts) (renT l t) := by simp [renAll]
theorem renAll_len (l : List Pre2) : ∀ ts : List Tri3, (renAll l ts).length ≤ ts.length := by
  intro ts
  have h : ∀ (us acc : List Tri3), (us.foldl putT acc).length ≤ acc.length + us.length := by
    intro us
    induction us with
    | nil => intro acc; simp
    | cons u r ih =>
      intro acc
      have h1 := ih (putT acc u)
      have h2 := putT_len acc u
      simp only [List.foldl_cons, List.length_cons]
      omega
  have := h (ts.map (renT l)) []
  simp only [List.length_map, List.length_nil, Nat.zero_add] at this
  exact this
theorem renAll_mem (l : List Pre2) (ts : List Tri3) (u : Tri3) : u ∈ renAll l ts ↔ ∃ t, t ∈ ts ∧ u = renT l t := by
  unfold renAll
  have h : ∀ (us acc : List Tri3), u ∈ us.foldl putT acc ↔ u ∈ acc ∨ u ∈ us := by
    intro us
    induction us with
    | nil => intro acc; simp
    | cons x r ih => intro acc; rw [List.foldl_cons, ih, putT_mem, List.mem_cons]; simp only [or_assoc, or_comm, or_left_comm]
  rw [h]
  simp only [List.not_mem_nil, false_or, List.mem_map]
  exact ⟨fun ⟨t, h1, h2⟩ => ⟨t, h1, h2.symm⟩, fun ⟨t, h1, h2⟩ => ⟨t, h1, h2.symm⟩⟩
theorem seen_size (n : Nat) : ∀ (l : List Pre2) (x : ByteArray), x.size ≤ n → (∀ t ∈ l, t.2.size ≤ n) → (seen l x).size ≤ n := by
  intro l
  induction l with
  | nil => intro x h _; exact h
  | cons t r ih =>
    intro x h k
    unfold seen
    split
    · exact k t (List.mem_cons_self ..)
    · exact ih x h fun u hu => k u (List.mem_cons_of_mem _ hu)
theorem renAll_most {l : List Pre2} {ts : List Tri3} (h : ∀ t ∈ ts, t.1.size ≤ maxLen ∧ t.2.1.size ≤ maxLen ∧ t.2.2.size ≤ maxLen) (k : ∀ t ∈ l, t.2.size ≤ maxLen) : ∀ u ∈ renAll l ts, u.1.size ≤ maxLen ∧ u.2.1.size ≤ maxLen ∧ u.2.2.size ≤ maxLen := by
  intro u hu
  obtain ⟨t, ht, rfl⟩ := (renAll_mem l ts u).1 hu
  have := h t ht
  exact ⟨seen_size _ _ _ this.1 k, this.2.1, seen_size _ _ _ this.2.2 k⟩
set_option maxRecDepth 100000 in
theorem specTo (a : Option Addr) (len cap : Nat) (ts : List Pre2) (x : ByteArray) (w : World) (h : IsPres w a len cap ts) (hlen : len ≤ 1048576) :
    Calls Try.prog 33 #[.slice a len cap, .string x] w fun e w' => e = .returned (.string (seen ts x)) ∧ Below w.heap.size w w' := by
  have H := Lib.hid h
  have HT := Lib.hid h.len
  clear h
  go_enter Try.func33, Try.ntmps33
  go_wp2_with fail
  go_loopw [5] (fun i wr => ∃ k : Nat, k ≤ len ∧ i = .int .i64 k ∧ Hid (∀ (j : Nat) (u : Pre2), j < k → ts[j]? = some u → u.1 ≠ x) ∧ Below w.heap.size w wr) (fun i _ => len - (intOf i).toNat)
  case atStart => exact ⟨0, Nat.zero_le _, rfl, Lib.hid (fun j u hj => by omega), Below.refl _ _⟩
  case round =>
    obtain ⟨k, hk, rfl, hno, hnx⟩ := hrel
    by_cases hlt : k < len
    · obtain ⟨b, off, rfl, hb, hl, hm, hts, hc⟩ := H.out.cells (by omega)
      have ht : ts[k]? = some ts[k] := List.getElem?_eq_getElem (by omega)
      obtain ⟨c0, c1, m0, m1⟩ := hc k _ ht
      clear m0 m1
      rw [← hnx.cell (p := ⟨b, _, none⟩) hb] at c0 c1
      obtain ⟨t, htt⟩ : ∃ t, ts[k] = t := ⟨_, rfl⟩
      rw [htt] at c0 c1 ht
      clear htt
      have hk6 : (0 : Int) ≤ (k : Int) := by omega
      have hk7 : (k : Int) < (len : Int) := by omega
      clear hts hc hm
      by_cases hx : t.1 = x
      · have J : Hid (seen ts x = t.2) := Lib.hid (seen_at ts x k t ht hx hno.out)
        have e1 : (t.1.toList == x.toList) = true := by rw [hx]; simp
        clear hx ht
        go_wp2_with fail
        go_ret
        exact ⟨by rw [J.out]; rfl, hnx⟩
      · have J : Hid (∀ (j : Nat) (u : Pre2), j < k + 1 → ts[j]? = some u → u.1 ≠ x) := Lib.hid (fun j u hj hu => by
          rcases Nat.lt_or_eq_of_le (show j ≤ k by omega) with h | rfl
          · exact hno.out j u h hu
          · obtain rfl : u = t := by rw [hu] at ht; exact Option.some.inj ht
            exact hx)
        have e1 : (t.1.toList == x.toList) = false := by rw [beq_eq_false_iff_ne, ByteArray.toList_eq, ByteArray.toList_eq]; exact fun h => hx (data_inj h)
        clear hx ht
        go_wp2_with fail
        go_roundw
        case rel => exact ⟨k + 1, by omega, by go_num, J, hnx⟩
        case measure => simp [intOf]; omega
    · have J : Hid (seen ts x = x) := Lib.hid (seen_no ts x (fun t ht => by
        obtain ⟨i, hi⟩ := List.mem_iff_getElem?.1 ht
        have := (List.getElem?_eq_some_iff.1 hi).1
        have := HT.out
        exact hno.out i t (by omega) hi))
      go_wp2_with fail
      go_ret
      exact ⟨by rw [J.out]; rfl, hnx⟩
set_option maxRecDepth 100000 in
set_option maxHeartbeats 3200000 in
theorem specRen (a b : Option Addr) (la ca lb cb : Nat) (ts : List Tri3) (l : List Pre2) (w : World) (h : IsTris w a la ca ts) (hl : IsPres w b lb cb l) (h1 : la ≤ 80) (h2 : lb ≤ 1048576) :
    Calls Try.prog 19 #[.slice a la ca, .slice b lb cb] w fun e w' => ∃ v, e = .returned v ∧ OwnT w.heap.size w' v (renAll l ts) ∧ Below w.heap.size w w' := by
  have H := Lib.hid h
  have HL := Lib.hid h.len
  have HP := Lib.hid hl
  have HMM : Hid (∀ k, ∀ u ∈ renAll l (ts.take k), u.1.size ≤ maxLen ∧ u.2.1.size ≤ maxLen ∧ u.2.2.size ≤ maxLen) := Lib.hid fun k => renAll_most (fun t ht => h.small t (List.mem_of_mem_take ht)) (fun t ht => (hl.small t ht).2)
  clear h hl
  have B0 := Lib.hid ((Below.refl w.heap.size w).alloc (Nat.le_refl _) (.cells #[] 47))
  have O0 : Hid (OwnT w.heap.size (w.alloc (.cells #[] 47)) (.slice (some ⟨w.heap.size, 0, none⟩) 0 0) []) := Lib.hid (World.ownsRow_lit (size := 3) (e := 47) w #[] 0 (Nat.le_refl _) (by decide) rfl)
  go_enter Try.func19, Try.ntmps19
  go_wp2_with fail
  go_loopw [5, 6] (fun v i wr => ∃ k : Nat, k ≤ la ∧ i = .int .i64 k ∧ Hid (OwnT w.heap.size wr v (renAll l (ts.take k))) ∧ Hid (Below w.heap.size w wr)) (fun _ i _ => la - (intOf i).toNat)
  case atStart => exact ⟨0, Nat.zero_le _, rfl, O0, B0⟩
  case round =>
    obtain ⟨k, hk, rfl, hown, hnx⟩ := hrel
    clear O0 B0
    by_cases hlt : k < la
    · obtain ⟨b1, off, rfl, hb, hl', hm, hts, hcs⟩ := H.out.cells (by omega)
      have hts' := HL.out
      have ht : ts[k]? = some (ts[k]'(by omega)) := List.getElem?_eq_getElem (by omega)
      obtain ⟨c0, c1, c2, m0, m1, m2⟩ := hcs k _ ht
      have HS : Hid (renAll l (ts.take (k + 1)) = putT (renAll l (ts.take k)) (renT l (ts[k]'(by omega)))) := Lib.hid (by rw [List.take_succ_eq_append_getElem (by omega), renAll_snoc])
      rw [← hnx.out.cell (p := ⟨b1, _, none⟩) hb, ← World.cell?_drew] at c0 c1 c2
      have hb1 := Nat.lt_of_lt_of_le hb hnx.out.size
      obtain ⟨x, y, hv, -, -⟩ := OwnT.plain hown.out (HMM.out k)
      have hle := renAll_len l (ts.take k)
      rw [List.length_take] at hle
      have HLE : Hid ((renAll l (ts.take k)).length ≤ 80) := Lib.hid (by omega)
      obtain ⟨q, hq⟩ : ∃ q, renAll l (ts.take k) = q := ⟨_, rfl⟩
      have HMQ := Lib.hid (HMM.out k)
      rw [hq] at hv HS hown HLE HMQ
      subst hv
      generalize ts[k]'(by omega) = t at ht c0 c1 c2 HS m0 m1 m2
      obtain ⟨s, p, o⟩ := t
      simp only at c0 c1 c2
      have hk6 : (0 : Int) ≤ (k : Int) := by omega
      have hk7 : (k : Int) < (la : Int) := by omega
      obtain ⟨N, hN⟩ : ∃ N, q.length = N := ⟨_, rfl⟩
      rw [hN] at HLE ⊢
      have HQN := Lib.hid hN
      have O1 := Lib.hid (World.ownsRow.drew hown.out)
      have B1 := Lib.hid hnx.out.drew
      have HC1 : Hid (wr.drew.cell? _ = _ ∧ wr.drew.cell? _ = _ ∧ wr.drew.cell? _ = _) := Lib.hid (And.intro c0 (And.intro c1 c2))
      have P1 := Lib.hid ((HP.out.next hnx.out).next (Below.refl _ _).drew)
      have hb9 : b1 < wr.drew.heap.size := hb1
      clear ht hts hcs hm hl' hnx hown hb hb1 hle hq hN m0 m1 m2 c0 c1 c2
      have hb1 := hb9
      clear hb9
      obtain ⟨c0, c1, c2⟩ := HC1.out
      go_wp2_with fail
      clear c0 c1 c2
      go_region_held3 (fun w' => w'.cell? ⟨b1, off + k * 3, none⟩ = some (.string s) ∧ w'.cell? ⟨b1, off + k * 3 + 1, none⟩ = some (.string p) ∧ w'.cell? ⟨b1, off + k * 3 + 2, none⟩ = some (.string o))
        (first | exact HC4.out | exact HC3.out | exact HC2.out | exact HC1.out)
        (first | (go_at_call 32; obtain ⟨x', y', hv, i3, p3⟩ := OwnT.plain O3.out HMQ.out; rw [HQN.out] at hv i3; simp only [Value.slice.injEq, true_and] at hv; obtain ⟨rfl, rfl⟩ := hv; refine (specPutAny x N y q _ _ _ _ i3 p3 (by have := HLE.out; omega)).mono ?_; rintro e w4 ⟨v4, rfl, o4, hb⟩; have O4 := Lib.hid (own_base o4 B3.out.size); have B4 := Lib.hid (B3.out.trans (hb.mono B3.out.size)); have HC4 := Lib.hid (And.intro ((hb.cell (p := ⟨b1, _, none⟩) hb3).trans HC3.out.1) (And.intro ((hb.cell (p := ⟨b1, _, none⟩) hb3).trans HC3.out.2.1) ((hb.cell (p := ⟨b1, _, none⟩) hb3).trans HC3.out.2.2))); have P4 := Lib.hid (P3.out.next hb); have hb4 := Nat.lt_of_lt_of_le hb3 hb.size; clear i3 p3 hb o4 O3 B3 HC3 P3 hb3) | (go_at_call 33; have ZZ := O2; clear ZZ; refine (specTo b lb cb l o _ P2.out h2).mono ?_; rintro e w3 ⟨rfl, hb⟩; have O3 := Lib.hid (own_next O2.out (grown_of_below hb)); have B3 := Lib.hid (B2.out.trans (hb.mono B2.out.size)); have HC3 := Lib.hid (And.intro ((hb.cell (p := ⟨b1, _, none⟩) hb2).trans HC2.out.1) (And.intro ((hb.cell (p := ⟨b1, _, none⟩) hb2).trans HC2.out.2.1) ((hb.cell (p := ⟨b1, _, none⟩) hb2).trans HC2.out.2.2))); have P3 := Lib.hid (P2.out.next hb); have hb3 := Nat.lt_of_lt_of_le hb2 hb.size; clear hb O2 B2 HC2 P2 hb2) | (go_at_call 33; have ZZ := O1; clear ZZ; refine (specTo b lb cb l s _ P1.out h2).mono ?_; rintro e w2 ⟨rfl, hb⟩; have O2 := Lib.hid (own_next O1.out (grown_of_below hb)); have B2 := Lib.hid (B1.out.trans (hb.mono B1.out.size)); have HC2 := Lib.hid (And.intro ((hb.cell (p := ⟨b1, _, none⟩) hb1).trans HC1.out.1) (And.intro ((hb.cell (p := ⟨b1, _, none⟩) hb1).trans HC1.out.2.1) ((hb.cell (p := ⟨b1, _, none⟩) hb1).trans HC1.out.2.2))); have P2 := Lib.hid (P1.out.next hb); have hb2 := Nat.lt_of_lt_of_le hb1 hb.size; clear hb O1 B1 HC1 P1 hb1))
      go_wp2_with fail
      go_roundw
      case rel => exact ⟨k + 1, by omega, by go_num, Lib.hid (by rw [HS.out]; exact O4.out), B4⟩
      case measure => simp [intOf]; omega
    · obtain rfl : k = la := by omega
      have hN := hown.out
      rw [List.take_of_length_le (by rw [HL.out]; exact Nat.le_refl _)] at hN
      have HN := Lib.hid hN
      clear hown hN
      go_wp2_with fail
      go_ret
      exact ⟨_, rfl, HN.out, hnx.out⟩
def blankL (l : List UInt8) : Bool := decide (kindL l = 3)
def renOk (l : List Pre2) : Bool := l.all fun t => blankL t.1.data.toList && blankL t.2.data.toList
def renamedO (g : List Tri3) (l : List Pre2) : Option (List Tri3) := if graphOk g = true ∧ renOk l = true then some (renAll l g) else none
theorem blankL_cases {s : ByteArray} {kk : Nat} (h : kindL s.data.toList = kk) : (kk = 3 ∧ blankL s.data.toList = true) ∨ (¬ ((kk : Nat) : Int) = 3 ∧ blankL s.data.toList = false) := by
  unfold blankL
  rw [h]
  simp only [decide_eq_true_eq, decide_eq_false_iff_not]; omega
theorem renOk_no {l : List Pre2} {t : Pre2} (ht : t ∈ l) (h : blankL t.1.data.toList = false ∨ blankL t.2.data.toList = false) : renOk l = false := by
  unfold renOk
  rw [List.all_eq_false]
  exact ⟨t, ht, by rcases h with h | h <;> simp [h]⟩
theorem renOk_yes {l : List Pre2} (h : ∀ (j : Nat) (t : Pre2), l[j]? = some t → blankL t.1.data.toList = true ∧ blankL t.2.data.toList = true) : renOk l = true := by
  unfold renOk
  rw [List.all_eq_true]
  intro t ht
  obtain ⟨j, hj⟩ := List.mem_iff_getElem?.1 ht
  simp [h j t hj]
set_option maxRecDepth 100000 in
set_option maxHeartbeats 3200000 in
theorem specRenamed (a b : Option Addr) (la ca lb cb : Nat) (ts : List Tri3) (l : List Pre2) (w : World) (h : IsTris w a la ca ts) (hl : IsPres w b lb cb l) (hsm : Sm ts) (hsp : SmP l) (h2 : lb ≤ 1048576) :
    Calls Try.prog 6 #[.slice a la ca, .slice b lb cb] w (ResPost (renamedO ts l) w) := by
  have C' := specGraphOk a la ca ts w h hsm
  have HL := Lib.hid h.len
  have HPL := Lib.hid hl.len
  have H := Lib.hid h
  have HP := Lib.hid hl
  have HSP := Lib.hid hsp
  clear h hl hsm hsp
  cases hq : graphOk ts
  · have HV : Hid (renamedO ts l = none) := Lib.hid (by unfold renamedO; rw [hq]; simp)
    rw [hq] at C'
    have C := Lib.hid C'
    clear C' hq
    go_enter Try.func6, Try.ntmps6
    go_wp2_with fail
    refine C.out.mono ?_
    rintro e w1 ⟨rfl, hb⟩
    go_wp2_with fail
    go_ret2
    rw [HV.out]
    exact ⟨.slice none 0 0, rfl, World.ownsRow_nil .., hb⟩
  have hl4 : la ≤ 80 := by have := graphOk_len hq; have := HL.out; omega
  have HQ := Lib.hid hq
  rw [hq] at C'
  have C := Lib.hid C'
  clear C' hq
  go_enter Try.func6, Try.ntmps6
  go_wp2_with fail
  refine C.out.mono ?_
  rintro e w1 ⟨rfl, hb0⟩
  have B0 := Lib.hid hb0
  clear hb0 C
  go_wp2_with fail
  go_loopw [6] (fun i wr => ∃ k : Nat, k ≤ lb ∧ i = .int .i64 k ∧ Hid (∀ (j : Nat) (t : Pre2), j < k → l[j]? = some t → blankL t.1.data.toList = true ∧ blankL t.2.data.toList = true) ∧ Hid (Below w.heap.size w wr)) (fun i _ => lb - (intOf i).toNat)
  case atStart => exact ⟨0, Nat.zero_le _, rfl, Lib.hid (fun j t hj => by omega), B0⟩
  case round =>
    obtain ⟨k, hk, rfl, hyes, hnx⟩ := hrel
    clear B0
    by_cases hlt : k < lb
    · obtain ⟨b1, off, rfl, hb, _, _, _, hcs⟩ := HP.out.cells (by omega)
      have ht : l[k]? = some (l[k]'(by have := HPL.out; omega)) := List.getElem?_eq_getElem (by have := HPL.out; omega)
      obtain ⟨c0, c1, m0, m1⟩ := hcs k _ ht
      have hsz := HSP.out _ (List.mem_of_getElem? ht)
      rw [← hnx.out.cell (p := ⟨b1, _, none⟩) hb] at c0 c1
      have hbr := Nat.lt_of_lt_of_le hb hnx.out.size
      generalize l[k]'(by have := HPL.out; omega) = t at ht c0 c1 m0 m1 hsz
      obtain ⟨s, o⟩ := t
      simp only at c0 c1 hsz
      have HT := Lib.hid ht
      have hk6 : (0 : Int) ≤ (k : Int) := by omega
      have hk7 : (k : Int) < (lb : Int) := by omega
      obtain ⟨k0, hk0⟩ : ∃ q, kindL s.data.toList = q := ⟨_, rfl⟩
      obtain ⟨k1, hk1⟩ : ∃ q, kindL o.data.toList = q := ⟨_, rfl⟩
      have V0 := specKindOf s (by omega)
      have V1 := specKindOf o (by omega)
      rw [hk0] at V0
      rw [hk1] at V1
      have HV0 := Lib.hid V0
      have HV1 := Lib.hid V1
      have E0 := Lib.hid (blankL_cases hk0)
      have E1 := Lib.hid (blankL_cases hk1)
      clear V0 V1 hk0 hk1 ht hcs hsz m0 m1 hb
      rcases E0.out with ⟨rfl, f0⟩ | ⟨e0, f0⟩
      · have F0 := Lib.hid f0
        clear f0 E0
        rcases E1.out with ⟨rfl, f1⟩ | ⟨e1, f1⟩
        · have F1 := Lib.hid f1
          clear f1 E1
          go_wp2_with fail
          refine (HV0.out _).mono ?_
          rintro e w2 ⟨rfl, hb⟩
          have B2 := Lib.hid (hnx.out.trans (hb.mono hnx.out.size))
          have c2 := (hb.cell (p := ⟨b1, _, none⟩) hbr).trans c1
          clear hb c0 c1 hnx HV0
          go_wp2_with fail
          refine (HV1.out _).mono ?_
          rintro e w3 ⟨rfl, hb⟩
          have B3 := Lib.hid (B2.out.trans (hb.mono B2.out.size))
          clear hb c2 B2 HV1
          go_wp2_with fail
          go_roundw
          case rel => exact ⟨k + 1, by omega, by go_num, Lib.hid (fun j t hj hjt => by
            rcases Nat.lt_or_eq_of_le (show j ≤ k by omega) with h | rfl
            · exact hyes.out j t h hjt
            · obtain rfl : (s, o) = t := by have := HT.out; rw [hjt] at this; exact (Option.some.inj this).symm
              exact ⟨F0.out, F1.out⟩), B3⟩
          case measure => simp [intOf]; omega
        · have HV : Hid (renamedO ts l = none) := Lib.hid (by unfold renamedO; rw [renOk_no (List.mem_of_getElem? HT.out) (.inr f1)]; simp)
          clear f1 E1 hyes
          go_wp2_with fail
          refine (HV0.out _).mono ?_
          rintro e w2 ⟨rfl, hb⟩
          have B2 := Lib.hid (hnx.out.trans (hb.mono hnx.out.size))
          have c2 := (hb.cell (p := ⟨b1, _, none⟩) hbr).trans c1
          clear hb c0 c1 hnx HV0
          go_wp2_with fail
          refine (HV1.out _).mono ?_
          rintro e w3 ⟨rfl, hb⟩
          have B3 := Lib.hid (B2.out.trans (hb.mono B2.out.size))
          clear hb c2 B2 HV1
          go_wp2_with fail
          go_ret2
          rw [HV.out]
          exact ⟨.slice none 0 0, rfl, World.ownsRow_nil .., B3.out⟩
      · have HV : Hid (renamedO ts l = none) := Lib.hid (by unfold renamedO; rw [renOk_no (List.mem_of_getElem? HT.out) (.inl f0)]; simp)
        clear f0 E0 E1 hyes HV1
        go_wp2_with fail
        refine (HV0.out _).mono ?_
        rintro e w2 ⟨rfl, hb⟩
        have B2 := Lib.hid (hnx.out.trans (hb.mono hnx.out.size))
        clear hb c0 c1 hnx HV0
        go_wp2_with fail
        go_ret2
        rw [HV.out]
        exact ⟨.slice none 0 0, rfl, World.ownsRow_nil .., B2.out⟩
    · obtain rfl : k = lb := by omega
      have HV : Hid (renamedO ts l = some (renAll l ts)) := Lib.hid (by
        unfold renamedO
        rw [if_pos ⟨HQ.out, renOk_yes fun j t hj => hyes.out j t (by have := (List.getElem?_eq_some_iff.1 hj).1; have := HPL.out; omega) hj⟩])
      have CR := Lib.hid (specRen a b la ca k cb ts l wr (H.out.next hnx.out) (HP.out.next hnx.out) hl4 h2)
      clear hyes
      go_wp2_with fail
      refine CR.out.mono ?_
      rintro e w2 ⟨v, rfl, o2, hb⟩
      have B2 := Lib.hid (hnx.out.trans (hb.mono hnx.out.size))
      have O2 := Lib.hid (own_base o2 hnx.out.size)
      clear o2 hb hnx CR
      go_wp2_with fail
      go_ret2
      rw [HV.out]
      exact ⟨v, rfl, O2.out, B2.out⟩
end Go.Proofs.Ytobmcngmcmhebaa
