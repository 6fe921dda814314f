/- What a drawn graph is: a slice of the call's own, of a bounded length, of texts of a bounded length. -/
import Derived.Test.YthnpchcfjkepaaaG20
import Derived.Test.YthnpchcfjkepaaaG19
import Derived.Test.YthnpchcfjkepaaaG09
import Derived.Deep.RegionWith
import Derived.RegionTactic
namespace Go.Proofs.Ythnpchcfjkepaaa
open Go.RowKit Go.WideShapes
theorem SmG.with_ {ts : List Tri3} {t : Tri3} (h : SmG ts) (ht : t.1.size ≤ 20 ∧ t.2.1.size ≤ 20 ∧ t.2.2.size ≤ 20) : SmG ((withT ts t).getD []) ∧ ((withT ts t).getD []).length ≤ 80 := by
  cases e : withT ts t with
  | none => exact ⟨⟨by simp, by simp⟩, by simp⟩
  | some g =>
    obtain ⟨_, _, rfl, hg⟩ := withT_some e
    have hl := graphOk_len hg
    refine ⟨⟨by simp only [Option.getD_some]; omega, fun u hu => ?_⟩, hl⟩
    rcases putT_mem.1 hu with rfl | hu
    · exact ht
    · exact h.2 u hu
theorem rd_far {B g : Nat} {w w' : World} (h : Rd B w g) (hb : Below w.heap.size w w') : Rd B w' g := h.grown (grown_of_below hb) (by simp)
open Go.RowKit Go.WideShapes
set_option maxRecDepth 100000 in
set_option maxHeartbeats 1600000 in
theorem lawHas (a : Option Addr) (len cap : Nat) (ts : List Tri3) (s p o : ByteArray) (w : World) (h : IsTris w a len cap ts) (hl : len ≤ 1048576) :
    Calls Try.prog 13 #[.slice a len cap, .agg #[.string s, .string p, .string o]] w fun e w' => e = .returned (.bool (decide ((s, p, o) ∈ ts))) ∧ Below w.heap.size w w' := by
  have H := Lib.hid h
  have HT := Lib.hid h.len
  have B0 := (Below.refl w.heap.size w).alloc (Nat.le_refl _) (.cells #[.string s, .string p, .string o] 34)
  have X0 := Box.new w (.string s) (.string p) (.string o) 34
  clear h
  go_enter Try.func13, Try.ntmps13
  go_wp2_with fail
  go_loopw [5] (fun i wr => ∃ k : Nat, k ≤ len ∧ i = .int .i64 k ∧ Hid ((s, p, o) ∉ ts.take k) ∧ Hid (Box wr w.heap.size (.string s) (.string p) (.string o) 34) ∧ Below w.heap.size w wr) (fun i _ => len - (intOf i).toNat)
  case atStart => exact ⟨0, Nat.zero_le _, rfl, Lib.hid (by simp), Lib.hid X0, B0⟩
  case round =>
    obtain ⟨k, hk, rfl, hnot, hbox, hnx⟩ := hrel
    clear X0 B0
    have hk6 : (0 : Int) ≤ (k : Int) := by omega
    have hk8 : k ≤ 1048576 := by omega
    by_cases hlt : k < len
    · have hk7 : (k : Int) < (len : Int) := by omega
      obtain ⟨b, off, rfl, hb, hl', hm, hts, hcs⟩ := H.out.cells (by omega)
      have ht : ts[k]? = some (ts[k]'(by omega)) := List.getElem?_eq_getElem (by omega)
      have HS : Hid (ts.take (k + 1) = ts.take k ++ [ts[k]'(by omega)]) := Lib.hid (List.take_succ_eq_append_getElem (by omega))
      obtain ⟨d0, d1, d2, m0, m1, m2⟩ := hcs k _ ht
      rw [← hnx.cell (p := ⟨b, _, none⟩) hb] at d0 d1 d2
      generalize ts[k]'(by omega) = u at ht d0 d1 d2 m0 m1 m2 HS
      obtain ⟨c0, c1, c2⟩ := hbox.out.cells
      by_cases he : u = (s, p, o)
      · subst he
        have HR : Hid (decide ((s, p, o) ∈ ts) = true) := Lib.hid (decide_eq_true (List.mem_of_getElem? ht))
        have EQ := tri_is s p o
        simp only at d0 d1 d2
        clear ht hts hcs hm m0 m1 m2 hl' hnot HS
        go_wp2_with fail
        go_quiet (fail)
        clear EQ
        go_wp2_with fail
        go_ret
        exact ⟨by rw [HR.out]; rfl, below_drewN hnx nq⟩
      · have EQ := tri_isnt he
        simp only at EQ
        have HN : Hid ((s, p, o) ∉ ts.take (k + 1)) := Lib.hid (by
          rw [HS.out, List.mem_append]
          rintro (h | h)
          · exact hnot.out h
          · exact he (List.mem_singleton.1 h).symm)
        have X1 : Hid (∀ n, Box (wr.drewN n) w.heap.size (.string s) (.string p) (.string o) 34) := Lib.hid (fun n => hbox.out)
        have HB : Hid (∀ n, Below w.heap.size w (wr.drewN n)) := Lib.hid (fun n => below_drewN hnx n)
        clear ht hts hcs hm m0 m1 m2 hl' hnot HS he
        go_wp2_with fail
        go_quiet (fail)
        clear EQ
        go_wp2_with fail
        go_roundw
        case rel => exact ⟨k + 1, by omega, by go_num, HN, Lib.hid (X1.out _), HB.out _⟩
        case measure => simp [intOf]; omega
    · obtain rfl : k = len := by omega
      have HR : Hid (decide ((s, p, o) ∈ ts) = false) := Lib.hid (decide_eq_false (by
        have := hnot.out
        rwa [List.take_of_length_le (by rw [HT.out]; exact Nat.le_refl _)] at this))
      go_wp2_with fail
      go_ret
      exact ⟨by rw [HR.out]; rfl, hnx⟩
instance triList (ts us : List Tri3) : Decidable (ts = us) := decidable_of_iff (ts.length = us.length ∧ ∀ i, i < ts.length → ts[i]? = us[i]?) ⟨fun ⟨h, g⟩ => List.ext_getElem? fun i => by
  rcases Nat.lt_or_ge i ts.length with c | c
  · exact g i c
  · rw [List.getElem?_eq_none c, List.getElem?_eq_none (by omega)], fun h => by subst h; exact ⟨rfl, fun _ _ => rfl⟩⟩
set_option maxRecDepth 100000 in
set_option maxHeartbeats 1600000 in
theorem lawSame (a b : Option Addr) (la ca lb cb : Nat) (ts us : List Tri3) (w : World) (h : IsTris w a la ca ts) (k : IsTris w b lb cb us) (hl : la ≤ 1048576) (kl : lb ≤ 1048576) :
    Calls Try.prog 11 #[.slice a la ca, .slice b lb cb] w fun e w' => e = .returned (.bool (decide (ts = us))) ∧ Below w.heap.size w w' := by
  have H := Lib.hid h
  have K := Lib.hid k
  have HT := Lib.hid h.len
  have KT := Lib.hid k.len
  clear h k
  by_cases hne : la = lb
  rotate_left
  · have hb : ((la : Int) != (lb : Int)) = true := by rw [bne_iff_ne]; omega
    have HR : Hid (decide (ts = us) = false) := Lib.hid (decide_eq_false (fun e => hne (by rw [← HT.out, ← KT.out, e])))
    clear hne
    go_enter Try.func11, Try.ntmps11
    go_wp2_with fail
    go_ret
    exact ⟨by rw [HR.out]; rfl, Below.refl _ _⟩
  subst hne
  go_enter Try.func11, Try.ntmps11
  go_wp2_with fail
  go_loopw [5] (fun i wr => ∃ j : Nat, j ≤ la ∧ i = .int .i64 j ∧ Hid (ts.take j = us.take j) ∧ Below w.heap.size w wr) (fun i _ => la - (intOf i).toNat)
  case atStart => exact ⟨0, Nat.zero_le _, rfl, Lib.hid rfl, Below.refl _ _⟩
  case round =>
    obtain ⟨j, hj, rfl, hyes, hnx⟩ := hrel
    have hj6 : (0 : Int) ≤ (j : Int) := by omega
    by_cases hlt : j < la
    · have hj7 : (j : Int) < (la : Int) := by omega
      obtain ⟨b1, off, rfl, hb, hl', hm, hts, hcs⟩ := H.out.cells (by omega)
      obtain ⟨b2, off2, rfl, hb2, hl2', hm2, hts2, hcs2⟩ := K.out.cells (by omega)
      have ht : ts[j]? = some (ts[j]'(by omega)) := List.getElem?_eq_getElem (by omega)
      have hu : us[j]? = some (us[j]'(by omega)) := List.getElem?_eq_getElem (by omega)
      have HS : Hid (ts.take (j + 1) = ts.take j ++ [ts[j]'(by omega)]) := Lib.hid (List.take_succ_eq_append_getElem (by omega))
      have KS : Hid (us.take (j + 1) = us.take j ++ [us[j]'(by omega)]) := Lib.hid (List.take_succ_eq_append_getElem (by omega))
      obtain ⟨c0, c1, c2, m0, m1, m2⟩ := hcs j _ ht
      obtain ⟨d0, d1, d2, n0, n1, n2⟩ := hcs2 j _ hu
      rw [← hnx.cell (p := ⟨b1, _, none⟩) hb] at c0 c1 c2
      rw [← hnx.cell (p := ⟨b2, _, none⟩) hb2] at d0 d1 d2
      generalize ts[j]'(by omega) = t at ht c0 c1 c2 m0 m1 m2 HS
      generalize us[j]'(by omega) = u at hu d0 d1 d2 n0 n1 n2 KS
      have HB : Hid (∀ n, Below w.heap.size w (wr.drewN n)) := Lib.hid (fun n => below_drewN hnx n)
      by_cases he : t = u
      · subst he
        have EQ := tri_same t.1 t.2.1 t.2.2
        have HY : Hid (ts.take (j + 1) = us.take (j + 1)) := Lib.hid (by rw [HS.out, KS.out, hyes.out])
        clear ht hu hts hts2 hcs hcs2 hm hm2 m0 m1 m2 n0 n1 n2 hl' hl2' HS KS hyes hnx
        go_wp2_with fail
        go_quiet (fail)
        clear EQ
        go_wp2_with fail
        go_roundw
        case rel => exact ⟨j + 1, by omega, by go_num, HY, HB.out _⟩
        case measure => simp [intOf]; omega
      · have EQ : ∀ w, (binOp .neq 34 (.agg #[.string t.1, .string t.2.1, .string t.2.2]) (.agg #[.string u.1, .string u.2.1, .string u.2.2])).run Try.prog w = .ok (.bool true) w := fun w => by rw [tri_ne, tri_not he]; rfl
        have HR : Hid (decide (ts = us) = false) := Lib.hid (decide_eq_false (fun e => by
          rw [e, hu] at ht
          exact he (Option.some.inj ht).symm))
        clear ht hu hts hts2 hcs hcs2 hm hm2 m0 m1 m2 n0 n1 n2 hl' hl2' HS KS hyes hnx he
        go_wp2_with fail
        go_quiet (fail)
        clear EQ
        go_wp2_with fail
        go_ret
        exact ⟨by rw [HR.out]; rfl, HB.out _⟩
    · obtain rfl : j = la := by omega
      have HR : Hid (decide (ts = us) = true) := Lib.hid (decide_eq_true (by
        have := hyes.out
        rwa [List.take_of_length_le (by rw [HT.out]; exact Nat.le_refl _), List.take_of_length_le (by rw [KT.out]; exact Nat.le_refl _)] at this))
      go_wp2_with fail
      go_ret
      exact ⟨by rw [HR.out]; rfl, hnx⟩
def inAll (ts us : List Tri3) : Bool := ts.all (fun t => decide (t ∈ us))
set_option maxRecDepth 100000 in
set_option maxHeartbeats 1600000 in
theorem lawWithin (a b : Option Addr) (la ca lb cb : Nat) (ts us : List Tri3) (w : World) (h : IsTris w a la ca ts) (k : IsTris w b lb cb us) (hl : la ≤ 1048576) (kl : lb ≤ 1048576) :
    Calls Try.prog 12 #[.slice a la ca, .slice b lb cb] w fun e w' => e = .returned (.bool (inAll ts us)) ∧ Below w.heap.size w w' := by
  have H := Lib.hid h
  have K := Lib.hid k
  have HT := Lib.hid h.len
  clear h k
  go_enter Try.func12, Try.ntmps12
  go_wp2_with fail
  go_loopw [5] (fun i wr => ∃ j : Nat, j ≤ la ∧ i = .int .i64 j ∧ Hid (inAll (ts.take j) us = true) ∧ Below w.heap.size w wr) (fun i _ => la - (intOf i).toNat)
  case atStart => exact ⟨0, Nat.zero_le _, rfl, Lib.hid rfl, Below.refl _ _⟩
  case round =>
    obtain ⟨j, hj, rfl, hyes, hnx⟩ := hrel
    have hj6 : (0 : Int) ≤ (j : Int) := by omega
    by_cases hlt : j < la
    · have hj7 : (j : Int) < (la : Int) := by omega
      obtain ⟨b1, off, rfl, hb, hl', hm, hts, hcs⟩ := H.out.cells (by omega)
      have ht : ts[j]? = some (ts[j]'(by omega)) := List.getElem?_eq_getElem (by omega)
      have HS : Hid (ts.take (j + 1) = ts.take j ++ [ts[j]'(by omega)]) := Lib.hid (List.take_succ_eq_append_getElem (by omega))
      obtain ⟨c0, c1, c2, m0, m1, m2⟩ := hcs j _ ht
      rw [← hnx.cell (p := ⟨b1, _, none⟩) hb] at c0 c1 c2
      generalize ts[j]'(by omega) = t at ht c0 c1 c2 m0 m1 m2 HS
      obtain ⟨t0, t1, t2⟩ := t
      simp only at c0 c1 c2
      have C := lawHas b lb cb us t0 t1 t2 wr (K.out.next hnx) kl
      by_cases he : (t0, t1, t2) ∈ us
      · rw [decide_eq_true he] at C
        have HC := Lib.hid C
        have HY : Hid (inAll (ts.take (j + 1)) us = true) := Lib.hid (by
          have := hyes.out
          unfold inAll at this ⊢
          rw [HS.out, List.all_append, this]; simp [he])
        clear C ht hts hcs hm m0 m1 m2 hl' HS hyes he
        go_wp2_with fail
        refine HC.out.mono ?_
        rintro e w1 ⟨rfl, hb1⟩
        have B1 := hnx.trans (hb1.mono hnx.size)
        clear hb1 hnx c0 c1 c2 HC
        go_wp2_with fail
        go_roundw
        case rel => exact ⟨j + 1, by omega, by go_num, HY, B1⟩
        case measure => simp [intOf]; omega
      · rw [decide_eq_false he] at C
        have HC := Lib.hid C
        have HR : Hid (inAll ts us = false) := Lib.hid (by
          unfold inAll
          rw [List.all_eq_false]
          exact ⟨_, List.mem_of_getElem? ht, by simp [he]⟩)
        clear C ht hts hcs hm m0 m1 m2 hl' HS hyes he
        go_wp2_with fail
        refine HC.out.mono ?_
        rintro e w1 ⟨rfl, hb1⟩
        go_wp2_with fail
        go_ret
        exact ⟨by rw [HR.out]; rfl, hnx.trans (hb1.mono hnx.size)⟩
    · obtain rfl : j = la := by omega
      have HR : Hid (inAll ts us = true) := Lib.hid (by
        have := hyes.out
        rwa [List.take_of_length_le (by rw [HT.out]; exact Nat.le_refl _)] at this)
      go_wp2_with fail
      go_ret
      exact ⟨by rw [HR.out]; rfl, hnx⟩
open Go.RowKit Go.WideShapes
/-- A slice of triples of a bounded length, short texts each, at a block's own place. -/
def GotG (w : World) (v : Value) (ts : List Tri3) : Prop := ∃ x cap, v = .slice x ts.length cap ∧ IsTris w x ts.length cap ts ∧ Plain x ∧ SmG ts
theorem GotG.next {w w' : World} {v : Value} {ts : List Tri3} (h : GotG w v ts) (hb : Below w.heap.size w w') : GotG w' v ts := by
  obtain ⟨x, cap, hv, hi, hp, hs⟩ := h
  exact ⟨x, cap, hv, hi.next hb, hp, hs⟩
theorem got_of {B : Nat} {w : World} {v : Value} {ts : List Tri3} (h : OwnT B w v ts) (hs : SmG ts) : GotG w v ts := by
  obtain ⟨x, cap, hv, hi, hp⟩ := OwnT.plain h hs.maxLen
  exact ⟨x, cap, hv, hi, hp, hs⟩
theorem SmG.less {ts : List Tri3} {t : Tri3} (h : SmG ts) : SmG ((withoutT ts t).getD []) := by
  cases e : withoutT ts t with
  | none => exact ⟨by simp, by simp⟩
  | some g =>
    obtain ⟨_, _, rfl, hg⟩ := withoutT_some e
    have hl := graphOk_len hg
    exact ⟨by simp only [Option.getD_some]; omega, fun u hu => h.2 u (lessT_mem.1 hu).2⟩
def GotRes (r : Option (List Tri3)) (w : World) (e : Ending) (w' : World) : Prop := ∃ z, e = .returned (.tuple #[z, .bool r.isSome]) ∧ GotG w' z (r.getD []) ∧ Below w.heap.size w w'
theorem gotRes {r : Option (List Tri3)} {w w' : World} {e : Ending} (hs : SmG (r.getD [])) (h : ResPost r w e w') : GotRes r w e w' := by
  obtain ⟨v, he, ho, hb⟩ := h
  exact ⟨v, he, got_of ho hs, hb⟩
theorem sameG {v u : Value} {ts us : List Tri3} {w : World} (h : GotG w v ts) (k : GotG w u us) : Calls Try.prog 11 #[v, u] w fun e w' => e = .returned (.bool (decide (ts = us))) ∧ Below w.heap.size w w' := by
  obtain ⟨x, c, rfl, hi, hp, hs⟩ := h
  obtain ⟨y, d, rfl, ki, kp, ks⟩ := k
  have := hs.1
  have := ks.1
  exact lawSame x y _ c _ d ts us w hi ki (by omega) (by omega)
theorem withinG {v u : Value} {ts us : List Tri3} {w : World} (h : GotG w v ts) (k : GotG w u us) : Calls Try.prog 12 #[v, u] w fun e w' => e = .returned (.bool (inAll ts us)) ∧ Below w.heap.size w w' := by
  obtain ⟨x, c, rfl, hi, hp, hs⟩ := h
  obtain ⟨y, d, rfl, ki, kp, ks⟩ := k
  have := hs.1
  have := ks.1
  exact lawWithin x y _ c _ d ts us w hi ki (by omega) (by omega)
theorem hasG {v : Value} {ts : List Tri3} {w : World} (h : GotG w v ts) (s p o : ByteArray) : Calls Try.prog 13 #[v, .agg #[.string s, .string p, .string o]] w fun e w' => e = .returned (.bool (decide ((s, p, o) ∈ ts))) ∧ Below w.heap.size w w' := by
  obtain ⟨x, c, rfl, hi, hp, hs⟩ := h
  have := hs.1
  exact lawHas x _ c ts s p o w hi (by omega)
theorem graphOkG {v : Value} {ts : List Tri3} {w : World} (h : GotG w v ts) : Calls Try.prog 14 #[v] w fun e w' => e = .returned (.bool (graphOk ts)) ∧ Below w.heap.size w w' := by
  obtain ⟨x, c, rfl, hi, hp, hs⟩ := h
  exact implGraphOk x _ c ts w hi hs.sm
theorem inAll_of {ts us : List Tri3} (h : ∀ t ∈ ts, t ∈ us) : inAll ts us = true := by
  unfold inAll
  rw [List.all_eq_true]
  exact fun t ht => decide_eq_true (h t ht)
open Go.RowKit Go.WideShapes
end Go.Proofs.Ythnpchcfjkepaaa
/- A drawn dataset. -/
namespace Go.Proofs.Ythnpchcfjkepaaa
open Go.RowKit Go.WideShapes
/-- A dataset of few short names, each with a small graph. -/
def SmD (ts : List NamV) : Prop := ts.length ≤ 7 ∧ ∀ r ∈ ts, r.1.size ≤ 20 ∧ SmG r.2
theorem totN_most : ∀ (ts : List NamV), (∀ r ∈ ts, r.2.length ≤ 81) → totN ts ≤ 81 * ts.length
  | [], _ => by simp [totN]
  | r :: rs, h => by
    have h1 := totN_most rs (fun q hq => h q (by simp [hq]))
    have h2 := h r (by simp)
    unfold totN at h1 ⊢
    simp only [List.map_cons, List.sum_cons, List.length_cons]
    omega
theorem SmD.nil : SmD [] := ⟨by simp, by simp⟩
theorem SmD.tot {ts : List NamV} (h : SmD ts) : totN ts ≤ 567 := by
  have h1 := totN_most ts (fun r hr => (h.2 r hr).2.1)
  have := h.1
  omega
theorem SmD.smN {ts : List NamV} (h : SmD ts) : SmN ts := fun r hr => by
  obtain ⟨h1, h2⟩ := h.2 r hr
  exact ⟨by omega, fun t ht => by have := h2.2 t ht; omega⟩
theorem SmD.all {ts : List NamV} (h : SmD ts) : SmAllN ts := h.smN.all
theorem SmD.at {ts : List NamV} (h : SmD ts) (s : ByteArray) : SmG (graphAt ts s) := by
  rcases graphAt_mem ts s with e | ⟨r, hr, e⟩
  · rw [e]; exact ⟨by simp, by simp⟩
  · rw [e]; exact (h.2 r hr).2
theorem SmD.put {ts : List NamV} (h : SmD ts) {s : ByteArray} {g : List Tri3} (hs : s.size ≤ 20) (hg : SmG g) (hl : (putNam ts (s, g)).length ≤ 7) : SmD (putNam ts (s, g)) :=
  ⟨hl, fun r hr => by
    rcases putGo_mem hr with rfl | hr
    · exact ⟨hs, hg⟩
    · exact h.2 r hr⟩
theorem SmD.with_ {ts : List NamV} (h : SmD ts) {s : ByteArray} {t : Tri3} (hs : s.size ≤ 20) (ht : t.1.size ≤ 20 ∧ t.2.1.size ≤ 20 ∧ t.2.2.size ≤ 20) : SmD ((dataWith ts s t).getD []) ∧ ((dataWith ts s t).getD []).length ≤ 6 := by
  unfold dataWith
  split
  · have hw := (h.at s).with_ ht
    cases hg : withT (graphAt ts s) t with
    | none => exact ⟨SmD.nil, by simp⟩
    | some g =>
      rw [hg] at hw
      simp only
      split
      · rename_i hp
        have h6 : (putNam ts (s, g)).length ≤ 6 := by unfold dataOk at hp; rw [Bool.and_eq_true, decide_eq_true_eq] at hp; exact hp.1
        exact ⟨h.put hs hw.1 (by omega), h6⟩
      · exact ⟨SmD.nil, by simp⟩
  · exact ⟨SmD.nil, by simp⟩
/-- A slice of the call's own whose cells are names and graphs of the call's own; a graph may stand in it twice. -/
def RdNs (B : Nat) (w : World) (v : Value) (ts : List NamV) : Prop :=
  ∃ us, w.ownsRow B 31 2 v ts.length (flatN ts us) ∧ us.length = ts.length ∧ (∀ (i : Nat) (u : Value) (t : NamV), us[i]? = some u → ts[i]? = some t → OwnT B w u t.2) ∧ ∀ u ∈ us, ∀ j, u.ownBlock = some j → v.ownBlock ≠ some j
theorem OwnNs.rd {B : Nat} {w : World} {v : Value} {ts : List NamV} (h : OwnNs B w v ts) : RdNs B w v ts := by
  obtain ⟨us, h1, h2, h3⟩ := h
  exact ⟨us, h1, h2.1, h2.2.1, h3⟩
theorem off_row {B : Nat} {v : Value} {row : Option Nat} (hr : ∀ j, row = some j → j < B) (hv : ∀ j, v.ownBlock = some j → B ≤ j) : v.ownBlock = none ∨ v.ownBlock ≠ row := by
  rcases hvb : v.ownBlock with _ | j
  · exact .inl rfl
  · refine .inr fun e => ?_
    have h1 := hr j e.symm
    have h2 := hv j hvb
    omega
theorem OwnNs.grown {B : Nat} {w w' : World} {v : Value} {ts : List NamV} {row : Option Nat} (h : OwnNs B w v ts) (hg : w.grownBy w' row) (hr : ∀ j, row = some j → j < B) : OwnNs B w' v ts := by
  obtain ⟨us, h1, h2, h3⟩ := h
  exact (OutN.grown (⟨h1, h2, h3⟩ : OutN B w v ts us) hg (off_row hr fun j hj => (World.ownsRow.lt h1 j hj).1) (fun u hu => off_row hr fun j hj => (h2.lt u hu j hj).1)).own
theorem RdNs.grown {B : Nat} {w w' : World} {v : Value} {ts : List NamV} {row : Option Nat} (h : RdNs B w v ts) (hg : w.grownBy w' row) (hr : ∀ j, row = some j → j < B) : RdNs B w' v ts := by
  obtain ⟨us, h1, h2, h3, h4⟩ := h
  exact ⟨us, h1.kept hg (off_row hr fun j hj => (World.ownsRow.lt h1 j hj).1), h2, fun i u t hu ht => World.ownsRow.kept (h3 i u t hu ht) hg (off_row hr fun j hj => (World.ownsRow.lt (h3 i u t hu ht) j hj).1), h4⟩
theorem RdNs.next {B : Nat} {w w' : World} {v : Value} {ts : List NamV} (h : RdNs B w v ts) (hb : Below w.heap.size w w') : RdNs B w' v ts := h.grown (grown_of_below hb) (by simp)
theorem RdNs.is {B : Nat} {w : World} {v : Value} {ts : List NamV} (h : RdNs B w v ts) (hm : SmAllN ts) : ∃ a c, v = .slice a ts.length c ∧ IsNams w a ts.length c ts := by
  obtain ⟨us, ho, hl, hi, _⟩ := h
  have h0 := ho
  obtain ⟨hln, hc⟩ := ho
  rcases hc with ⟨e, e2⟩ | ⟨g, cap, cur, e, _, _, h1, h2, _⟩
  · exact ⟨none, 0, by rw [e, e2], .inl ⟨rfl, e2, rfl, List.length_eq_zero_iff.1 e2⟩⟩
  · subst e
    refine ⟨_, _, rfl, .inr ⟨_, rfl, h1, h2, rfl, fun i t ht => ?_⟩⟩
    have hil : i < ts.length := (List.getElem?_eq_some_iff.1 ht).1
    have hu : us[i]? = some (us[i]'(by omega)) := List.getElem?_eq_getElem _
    obtain ⟨f0, f1⟩ := flatN_at ts us hl i t _ ht hu
    have oi := hi i _ t hu ht
    obtain ⟨m0, ms⟩ := hm t (List.mem_of_getElem? ht)
    obtain ⟨a', c', ev, ii⟩ := oi.is ms
    rw [ev] at f1
    have e : ∀ j, (⟨g, 0, none⟩ : Addr).add (2 * i + j) = ⟨g, i * 2 + j, none⟩ := fun j => by rw [add_plain, Nat.zero_add, show 2 * i + j = i * 2 + j from by omega]
    have e0 : (⟨g, 0, none⟩ : Addr).add (2 * i) = ⟨g, i * 2, none⟩ := e 0
    refine ⟨a', t.2.length, c', ?_, ?_, ii, m0⟩
    · rw [e0]; exact (h0.cellAt _ (by omega)).trans f0
    · rw [e]; exact (h0.cellAt _ (by omega)).trans f1
theorem RdNs.base {B C : Nat} {w : World} {v : Value} {ts : List NamV} (h : RdNs B w v ts) (hc : C ≤ B) : RdNs C w v ts := by
  obtain ⟨us, ⟨h1, h2⟩, h3, h4, h5⟩ := h
  refine ⟨us, ⟨h1, ?_⟩, h3, fun i u t hu ht => ownTN_base (h4 i u t hu ht) hc, h5⟩
  rcases h2 with h2 | ⟨g, cap, cur, e, hB, r⟩
  · exact .inl h2
  · exact .inr ⟨g, cap, cur, e, Nat.le_trans hc hB, r⟩
theorem OwnNs.base {B C : Nat} {w : World} {v : Value} {ts : List NamV} (h : OwnNs B w v ts) (hc : C ≤ B) : OwnNs C w v ts := by
  obtain ⟨us, ⟨h1, h2⟩, h3, h4⟩ := h
  refine ⟨us, ⟨h1, ?_⟩, h3.base hc, h4⟩
  rcases h2 with h2 | ⟨g, cap, cur, e, hB, r⟩
  · exact .inl h2
  · exact .inr ⟨g, cap, cur, e, Nat.le_trans hc hB, r⟩
/-- Texts in a literal's cells. -/
def LitN (W : World) (L k : Nat) : Prop := L < W.heap.size ∧ ∀ m, m < k → ∃ s : ByteArray, s.size ≤ 10 ∧ W.cell? ⟨L, m, none⟩ = some (.string s)
theorem litN_new {w : World} {cs : List Value} {T : TypeId} (h : strsOk 0 10 cs = true) : LitN (w.alloc (.cells cs.toArray T)) w.heap.size cs.length := ⟨by simp, fun m hm => by
  have h1 := List.all_eq_true.1 h cs[m] (List.getElem_mem hm)
  split at h1
  · rename_i s hs
    refine ⟨s, (by simpa using h1), ?_⟩
    rw [World.cell?_alloc_at _ _ _ _ rfl]
    simp [List.getElem?_eq_getElem hm, hs]
  · simp at h1⟩
theorem LitN.grown {w w' : World} {L k g : Nat} (h : LitN w L k) (hg : w.grownBy w' (some g)) (hne : L ≠ g) : LitN w' L k := ⟨Nat.lt_of_lt_of_le h.1 hg.size, fun m hm => by
  obtain ⟨s, hs, hc⟩ := h.2 m hm
  exact ⟨s, hs, hg.cell hc (by simp; exact hne)⟩⟩
/-- 'append(d, d[0])'. -/
theorem wpList_dupN {ops : Array Oper} {rest : List Oper} {o : Oper} {a : Act} {w : World} {Q : Exit → Act → World → Prop} (hgd : o.guard = none) (s x : Operand)
    (ho : o.op = .call { callee := .builtin .append, args := #[s, x], argTypes := #[24, 24] }) {B : Nat} {v u : Value} {L : List NamV} {t : NamV} (hs : a.eval s = v) (h : RdNs B w v L) (hB : B ≤ w.heap.size)
    (q : Nat) (hx : a.eval x = .slice (some ⟨q, 0, none⟩) 1 1) (hq : w.cell? ⟨q, 0, none⟩ = some (.string t.1) ∧ w.cell? ⟨q, 1, none⟩ = some u) (hu : OwnT B w u t.2) (hv : ∀ j, u.ownBlock = some j → v.ownBlock ≠ some j) (hl : L.length ≤ 1048576)
    (k : ∀ (v' : Value) (w' : World), RdNs B w' v' (L ++ [t]) → w.grownBy w' v.ownBlock → wpList Try.prog ops Q rest (a.put o.dst v') w') : wpList Try.prog ops Q (o :: rest) a w := by
  refine wpList_plain hgd fun K hK => ?_
  obtain ⟨i0, hi, hz0, hz1, hz2⟩ := info_parts infoNam
  obtain ⟨us, h1, h2, h3, h4⟩ := h
  have hu1 := own_oneCell hu
  obtain ⟨v', w', hr, ho1, hg1, _, hat⟩ := run_append_own_at (P := Try.prog) (w := w) B 24 o.type 31 i0 (.agg #[.string ⟨#[]⟩, .slice none 0 0]) 2 40 Try.underlying24 hi hz0 hz1 hz2 rfl (by decide) v L.length _ h1 ⟨q, 0, none⟩ 1 1 [.string t.1, u] rfl (fun j y hy => by
      rcases j with _ | _ | j
      · simp at hy; subst hy; simpa [Addr.add] using hq.1
      · simp at hy; subst hy; simpa [Addr.add] using hq.2
      · simp at hy) (fun y hy => by
      simp at hy
      rcases hy with rfl | rfl
      · rfl
      · exact hu1) (by unfold maxLen; omega) (by omega) hB
  unfold Oper.wp
  simp [execOp, ho, resolve, invoke, builtin, hs, hx, hr, Result.andThen]
  have hne : ∀ x ∈ us ++ [u], x.ownBlock = none ∨ x.ownBlock ≠ v.ownBlock := by
    intro x hx
    rcases hxb : x.ownBlock with _ | j
    · exact .inl rfl
    · refine .inr (fun e => ?_)
      rcases List.mem_append.1 hx with hx | hx
      · exact h4 x hx j hxb e.symm
      · obtain rfl := List.mem_singleton.1 hx
        exact hv j hxb e.symm
  have hin : ∀ (i : Nat) (x : Value) (s : NamV), (us ++ [u])[i]? = some x → (L ++ [t])[i]? = some s → OwnT B w x s.2 := by
    intro i x s hx hs
    rcases Nat.lt_or_ge i L.length with c | c
    · rw [List.getElem?_append_left (by omega)] at hx hs
      exact h3 i x s hx hs
    · have hil := (List.getElem?_eq_some_iff.1 hs).1
      rw [List.length_append, List.length_singleton] at hil
      obtain rfl : i = L.length := by omega
      rw [List.getElem?_append_right (by omega)] at hx hs
      rw [h2] at hx
      simp at hx hs
      subst hx hs
      exact hu
  refine hK _ _ (k v' w' ⟨us ++ [u], ?_, by simp [h2], fun i x s hx hs => World.ownsRow.kept (hin i x s hx hs) hg1 (hne x (List.mem_of_getElem? hx)), fun x hx j hj e => ?_⟩ hg1)
  · rw [List.length_append, List.length_singleton, flatN_snoc _ _ _ _ h2]
    exact ho1
  · obtain ⟨i, hi'⟩ := List.mem_iff_getElem?.1 hx
    have hil : i < (L ++ [t]).length := by have := (List.getElem?_eq_some_iff.1 hi').1; simp [h2] at this; simp; omega
    have hlt := (World.ownsRow.lt (hin i x _ hi' (List.getElem?_eq_getElem hil)) j hj).2
    rcases hat with q | q
    · rw [q] at e
      rcases hne x hx with z | z
      · rw [z] at hj; cases hj
      · exact z (by rw [hj, e])
    · rw [q] at e
      cases e
      exact Nat.lt_irrefl _ hlt
set_option maxRecDepth 100000 in
set_option maxHeartbeats 6400000 in
theorem rdDataset (B g : Nat) (w : World) (h : Rd B w g) :
    Calls Try.prog 64 #[.pointer (some ⟨g, 0, none⟩)] w fun e w' => ∃ (v : Value) (ts : List NamV), e = .returned v ∧ SmD ts ∧ RdNs w.heap.size w' v ts ∧ Rd B w' g ∧ w.grownBy w' (some g) := by
  have hgw := h.2.1
  have hBg := h.1
  have R0 := h.alloc (.cells #[] 31)
  have G0 := World.grownBy_alloc w (.cells #[] 31) (some g)
  have O0 : OwnNs w.heap.size (w.alloc (.cells #[] 31)) (.slice (some ⟨w.heap.size, 0, none⟩) 0 0) [] := ⟨[], World.ownsRow_lit (size := 2) (e := 31) w #[] 0 (Nat.le_refl _) (by decide) rfl, InnN.nil _ _, by simp⟩
  have RB := rdBelow B g _ R0 9 (by omega) (by omega)
  have HRB := Lib.hid RB
  have HO := Lib.hid O0
  clear O0 RB R0
  go_enter Try.func64, Try.ntmps64
  go_wp2_with fail
  refine HRB.out.mono ?_
  rintro e w1 ⟨m, hm0, hm1, rfl, r1, g1⟩
  have G1 := G0.trans g1
  have O1 := HO.out.grown g1 (fun j hj => by cases hj; exact hgw)
  obtain ⟨m, rfl⟩ := Int.eq_ofNat_of_zero_le hm0
  have hm2 : m ≤ 9 := by omega
  have HR1 := Lib.hid r1
  have HO1 := Lib.hid O1
  clear g1 G0 HO O1 r1 HRB hm0 hm1
  go_wp2_with fail
  go_loopw [3, 4] (fun v' i wr => ∃ (j : Nat) (v : Value) (ts : List NamV), j ≤ 9 ∧ i = .int .i64 j ∧ v = v' ∧ Hid (SmD ts ∧ ts.length ≤ 6) ∧ Hid (OwnNs w.heap.size wr v ts) ∧ Hid (Rd B wr g) ∧ w.grownBy wr (some g)) (fun _ i _ => (intOf i).toNat)
  case atStart => exact ⟨m, _, [], hm2, rfl, rfl, Lib.hid ⟨SmD.nil, by simp⟩, HO1, HR1, G1⟩
  case round =>
    obtain ⟨j, v, ts, hj, rfl, rfl, hsm, hown, hrd, hg⟩ := hrel
    clear HO1 HR1 G1 hm2
    obtain ⟨x, y, rfl, ii⟩ := hown.out.is hsm.out.1.all
    obtain ⟨L, hL⟩ : ∃ L, ts.length = L := ⟨_, rfl⟩
    have HL := Lib.hid hL
    have hL6 : L ≤ 6 := by have := hsm.out.2; omega
    rw [hL] at hown ⊢
    clear ii hL
    by_cases hj0 : 0 < j
    · have hj1 : (0 : Int) < (j : Int) := by omega
      have O0 : Hid (OwnNs w.heap.size wr.drew (.slice x L y) ts) := Lib.hid hown.out
      have R0 : Hid (Rd B wr.drew g) := Lib.hid hrd.out.drew
      have G0 : Hid (w.grownBy wr.drew (some g)) := Lib.hid (grownBy_drew hg)
      clear hown hrd hg
      go_wp2_with fail
      refine wp_region_any (by kernel_rfl) ?_
      change wpAny _ _ _ _ _ _ _ (World.drew _)
      generalize World.drew wr = W0 at O0 R0 G0 ⊢
      refine wpAny_take (i := 0) (v := ?_) rfl (by kernel_rfl) (by kernel_rfl) (by kernel_rfl) (fun _ _ _ h => h) (Or.inl ⟨by kernel_rfl, ?_⟩) ?_
      rotate_left
      · intro w; go_simp; try with_reducible rfl
      refine wpAny_take (i := 2) (v := ?_) rfl (by kernel_rfl) (by kernel_rfl) (by kernel_rfl) (fun _ _ _ h => h) (Or.inl ⟨by kernel_rfl, ?_⟩) ?_
      rotate_left
      · intro w; go_simp; try with_reducible rfl
      refine wpAny_take (i := 6) (v := ?_) rfl (by kernel_rfl) (by kernel_rfl) (by kernel_rfl) (fun _ _ _ h => h) (Or.inl ⟨by kernel_rfl, ?_⟩) ?_
      rotate_left
      · intro w; go_simp; try with_reducible rfl
      refine wpAny_ready (rs := [1, 3]) (by kernel_rfl) (by simp) ?_
      refine (AllReady.cons rfl (fun K hK => ?_) (AllReady.cons rfl (fun K hK => ?_) AllReady.nil))
      · go_simp
        refine hK _ _ ?_
        clear hK K
        have O1 := Lib.hid (O0.out.grown (World.grownBy_alloc W0 (.cells #[.string ⟨#[60, 103, 62]⟩, .string ⟨#[60, 104, 62]⟩, .string ⟨#[60, 107, 62]⟩] 9) (some g)) (fun j hj => by cases hj; exact hgw))
        have R1 := Lib.hid (R0.out.alloc (.cells #[.string ⟨#[60, 103, 62]⟩, .string ⟨#[60, 104, 62]⟩, .string ⟨#[60, 107, 62]⟩] 9))
        have G1 := Lib.hid (G0.out.trans (World.grownBy_alloc W0 (.cells #[.string ⟨#[60, 103, 62]⟩, .string ⟨#[60, 104, 62]⟩, .string ⟨#[60, 107, 62]⟩] 9) (some g)))
        have N1 : Hid (LitN (W0.alloc (.cells #[.string ⟨#[60, 103, 62]⟩, .string ⟨#[60, 104, 62]⟩, .string ⟨#[60, 107, 62]⟩] 9)) W0.heap.size 3) := Lib.hid (litN_new (cs := [.string ⟨#[60, 103, 62]⟩, .string ⟨#[60, 104, 62]⟩, .string ⟨#[60, 107, 62]⟩]) rfl)
        have hne : W0.heap.size ≠ g := fun e => by have := R0.out.2.1; omega
        clear G0
        clear O0 R0
        refine wpAny_ready (rs := [3]) (by kernel_rfl) (by simp) ?_
        refine (AllReady.cons rfl (fun K hK => ?_) AllReady.nil)
        go_simp
        refine (rdBelow B g _ R1.out 3 (by omega) (by omega)).mono ?_
        rintro e w2 ⟨m, hm0, hm1, rfl, r, gg⟩
        obtain ⟨m, rfl⟩ := Int.eq_ofNat_of_zero_le hm0
        have hm3 : m < 3 := by omega
        have hm4 : (m : Int) < 3 := by omega
        have O2 := Lib.hid (O1.out.grown gg (fun j hj => by cases hj; exact hgw))
        have R2 := Lib.hid r
        have G2 := Lib.hid (G1.out.trans gg)
        have N2 := Lib.hid (N1.out.grown gg hne)
        clear gg r O1 R1 G1 N1
        go_wp2_with fail
        refine wpAny_take (i := 4) (v := ?_) rfl (by kernel_rfl) (by kernel_rfl) (by kernel_rfl) (fun _ _ _ h => h) (Or.inl ⟨by kernel_rfl, ?_⟩) ?_
        rotate_left
        · intro w; go_simp; try with_reducible rfl
        refine wpAny_ready (rs := [5, 7]) (by kernel_rfl) (by simp) ?_
        refine (AllReady.cons rfl (fun K hK => ?_) (AllReady.cons rfl (fun K hK => ?_) AllReady.nil))
        · obtain ⟨s, hs, hcs⟩ := N2.out.2 m hm3
          go_simp
          refine hK _ _ ?_
          clear hK K
          refine wpAny_ready (rs := [7]) (by kernel_rfl) (by simp) ?_
          refine (AllReady.cons rfl (fun K hK => ?_) AllReady.nil)
          go_simp
          refine (rdTriple B g _ R2.out).mono ?_
          rintro e w3 ⟨t0, t1, t2, ht0, ht1, ht2, rfl, r, gg⟩
          have O3 := Lib.hid (O2.out.grown gg (fun j hj => by cases hj; exact hgw))
          have R3 := Lib.hid r
          have G3 := Lib.hid (G2.out.trans gg)
          have N3 := Lib.hid (N2.out.grown gg hne)
          clear gg r O2 R2 G2 N2
          go_wp2_with fail
          refine wpAny_ready (rs := [8]) (by kernel_rfl) (by simp) ?_
          refine (AllReady.cons rfl (fun K hK => ?_) AllReady.nil)
          go_simp
          obtain ⟨x2, y2, e2, i2⟩ := O3.out.is hsm.out.1.all
          rw [HL.out] at e2 i2
          simp only [Value.slice.injEq, true_and] at e2
          obtain ⟨rfl, rfl⟩ := e2
          have HW := Lib.hid (hsm.out.1.with_ (s := s) (t := (t0, t1, t2)) (by omega) ⟨ht0.2, ht1, ht2⟩)
          have C := specDataWith x L y ts s t0 t1 t2 _ i2 hsm.out.1.smN (by omega) (by omega) (by have := hsm.out.1.tot; omega)
          clear i2
          generalize dataWith ts s (t0, t1, t2) = dr at C HW
          refine C.mono ?_
          rintro e w4 ⟨v3, rfl, o3, hb3⟩
          have G4 := Lib.hid (G3.out.trans (grown_any (grown_of_below hb3) (some g)))
          have R4 := Lib.hid (rd_far R3.out hb3)
          have P4 := Lib.hid (o3.base G3.out.size)
          have O4 := Lib.hid (O3.out.grown (grown_of_below hb3) (by simp))
          clear o3 hb3 C O3 R3 G3
          go_wp2_with fail
          refine wpAny_take (i := 9) (v := ?_) rfl (by kernel_rfl) (by kernel_rfl) (by kernel_rfl) (fun _ _ _ h => h) (Or.inl ⟨by kernel_rfl, ?_⟩) ?_
          rotate_left
          · intro w; go_simp; try with_reducible rfl
          refine wpAny_take (i := 10) (v := ?_) rfl (by kernel_rfl) (by kernel_rfl) (by kernel_rfl) (fun _ _ _ h => h) (Or.inl ⟨by kernel_rfl, ?_⟩) ?_
          rotate_left
          · intro w; go_simp; try with_reducible rfl
          refine wpAny_take (i := 11) (v := ?_) rfl (by kernel_rfl) (by kernel_rfl) (by kernel_rfl) (fun _ _ _ h => h) (Or.inl ⟨by kernel_rfl, ?_⟩) ?_
          rotate_left
          · intro w; go_simp; try with_reducible rfl
          refine wpAny_take (i := 12) (v := ?_) rfl (by kernel_rfl) (by kernel_rfl) (by kernel_rfl) (fun _ _ _ h => h) (Or.inl ⟨by kernel_rfl, ?_⟩) ?_
          rotate_left
          · intro w; go_simp; try with_reducible rfl
          refine wpAny_take (i := 13) (v := ?_) rfl (by kernel_rfl) (by kernel_rfl) (by kernel_rfl) (fun _ _ _ h => h) (Or.inl ⟨by kernel_rfl, ?_⟩) ?_
          rotate_left
          · intro w; go_simp; try with_reducible rfl
          refine wpAny_done (by kernel_rfl) ?_ _
          try simp only [Act.put, List.setIfInBounds_toArray, List.set_cons_zero, List.set_cons_succ, List.getElem_toArray, List.getElem_cons_zero, List.getElem_cons_succ]
          cases dr with
          | none =>
            go_wp2_with fail
            go_roundw
            case rel => exact ⟨j - 1, .slice x L y, ts, by omega, by rw [show ((j - 1 : Nat) : Int) = (j : Int) - 1 from by omega], rfl, hsm, O4, R4, G4.out⟩
            case measure => simp [intOf]; omega
          | some us =>
            go_wp2_with fail
            go_roundw
            case rel => exact ⟨j - 1, v3, us, by omega, by rw [show ((j - 1 : Nat) : Int) = (j : Int) - 1 from by omega], rfl, HW, P4, R4, G4.out⟩
            case measure => simp [intOf]; omega
        · go_simp
          refine (rdTriple B g _ R2.out).mono ?_
          rintro e w3 ⟨t0, t1, t2, ht0, ht1, ht2, rfl, r, gg⟩
          have O3 := Lib.hid (O2.out.grown gg (fun j hj => by cases hj; exact hgw))
          have R3 := Lib.hid r
          have G3 := Lib.hid (G2.out.trans gg)
          have N3 := Lib.hid (N2.out.grown gg hne)
          clear gg r O2 R2 G2 N2
          go_wp2_with fail
          refine wpAny_ready (rs := [5]) (by kernel_rfl) (by simp) ?_
          refine (AllReady.cons rfl (fun K hK => ?_) AllReady.nil)
          obtain ⟨s, hs, hcs⟩ := N3.out.2 m hm3
          go_simp
          refine hK _ _ ?_
          clear hK K
          refine wpAny_ready (rs := [8]) (by kernel_rfl) (by simp) ?_
          refine (AllReady.cons rfl (fun K hK => ?_) AllReady.nil)
          go_simp
          obtain ⟨x2, y2, e2, i2⟩ := O3.out.is hsm.out.1.all
          rw [HL.out] at e2 i2
          simp only [Value.slice.injEq, true_and] at e2
          obtain ⟨rfl, rfl⟩ := e2
          have HW := Lib.hid (hsm.out.1.with_ (s := s) (t := (t0, t1, t2)) (by omega) ⟨ht0.2, ht1, ht2⟩)
          have C := specDataWith x L y ts s t0 t1 t2 _ i2 hsm.out.1.smN (by omega) (by omega) (by have := hsm.out.1.tot; omega)
          clear i2
          generalize dataWith ts s (t0, t1, t2) = dr at C HW
          refine C.mono ?_
          rintro e w4 ⟨v3, rfl, o3, hb3⟩
          have G4 := Lib.hid (G3.out.trans (grown_any (grown_of_below hb3) (some g)))
          have R4 := Lib.hid (rd_far R3.out hb3)
          have P4 := Lib.hid (o3.base G3.out.size)
          have O4 := Lib.hid (O3.out.grown (grown_of_below hb3) (by simp))
          clear o3 hb3 C O3 R3 G3
          go_wp2_with fail
          refine wpAny_take (i := 9) (v := ?_) rfl (by kernel_rfl) (by kernel_rfl) (by kernel_rfl) (fun _ _ _ h => h) (Or.inl ⟨by kernel_rfl, ?_⟩) ?_
          rotate_left
          · intro w; go_simp; try with_reducible rfl
          refine wpAny_take (i := 10) (v := ?_) rfl (by kernel_rfl) (by kernel_rfl) (by kernel_rfl) (fun _ _ _ h => h) (Or.inl ⟨by kernel_rfl, ?_⟩) ?_
          rotate_left
          · intro w; go_simp; try with_reducible rfl
          refine wpAny_take (i := 11) (v := ?_) rfl (by kernel_rfl) (by kernel_rfl) (by kernel_rfl) (fun _ _ _ h => h) (Or.inl ⟨by kernel_rfl, ?_⟩) ?_
          rotate_left
          · intro w; go_simp; try with_reducible rfl
          refine wpAny_take (i := 12) (v := ?_) rfl (by kernel_rfl) (by kernel_rfl) (by kernel_rfl) (fun _ _ _ h => h) (Or.inl ⟨by kernel_rfl, ?_⟩) ?_
          rotate_left
          · intro w; go_simp; try with_reducible rfl
          refine wpAny_take (i := 13) (v := ?_) rfl (by kernel_rfl) (by kernel_rfl) (by kernel_rfl) (fun _ _ _ h => h) (Or.inl ⟨by kernel_rfl, ?_⟩) ?_
          rotate_left
          · intro w; go_simp; try with_reducible rfl
          refine wpAny_done (by kernel_rfl) ?_ _
          try simp only [Act.put, List.setIfInBounds_toArray, List.set_cons_zero, List.set_cons_succ, List.getElem_toArray, List.getElem_cons_zero, List.getElem_cons_succ]
          cases dr with
          | none =>
            go_wp2_with fail
            go_roundw
            case rel => exact ⟨j - 1, .slice x L y, ts, by omega, by rw [show ((j - 1 : Nat) : Int) = (j : Int) - 1 from by omega], rfl, hsm, O4, R4, G4.out⟩
            case measure => simp [intOf]; omega
          | some us =>
            go_wp2_with fail
            go_roundw
            case rel => exact ⟨j - 1, v3, us, by omega, by rw [show ((j - 1 : Nat) : Int) = (j : Int) - 1 from by omega], rfl, HW, P4, R4, G4.out⟩
            case measure => simp [intOf]; omega
      · go_simp
        refine (rdBelow B g _ R0.out 3 (by omega) (by omega)).mono ?_
        rintro e w2 ⟨m, hm0, hm1, rfl, r, gg⟩
        obtain ⟨m, rfl⟩ := Int.eq_ofNat_of_zero_le hm0
        have hm3 : m < 3 := by omega
        have hm4 : (m : Int) < 3 := by omega
        have O1 := Lib.hid (O0.out.grown gg (fun j hj => by cases hj; exact hgw))
        have R1 := Lib.hid r
        have G1 := Lib.hid (G0.out.trans gg)
        clear gg r O0 R0 G0
        go_wp2_with fail
        refine wpAny_ready (rs := [1, 7]) (by kernel_rfl) (by simp) ?_
        refine (AllReady.cons rfl (fun K hK => ?_) (AllReady.cons rfl (fun K hK => ?_) AllReady.nil))
        · go_simp
          refine hK _ _ ?_
          clear hK K
          have O2 := Lib.hid (O1.out.grown (World.grownBy_alloc w2 (.cells #[.string ⟨#[60, 103, 62]⟩, .string ⟨#[60, 104, 62]⟩, .string ⟨#[60, 107, 62]⟩] 9) (some g)) (fun j hj => by cases hj; exact hgw))
          have R2 := Lib.hid (R1.out.alloc (.cells #[.string ⟨#[60, 103, 62]⟩, .string ⟨#[60, 104, 62]⟩, .string ⟨#[60, 107, 62]⟩] 9))
          have G2 := Lib.hid (G1.out.trans (World.grownBy_alloc w2 (.cells #[.string ⟨#[60, 103, 62]⟩, .string ⟨#[60, 104, 62]⟩, .string ⟨#[60, 107, 62]⟩] 9) (some g)))
          have N2 : Hid (LitN (w2.alloc (.cells #[.string ⟨#[60, 103, 62]⟩, .string ⟨#[60, 104, 62]⟩, .string ⟨#[60, 107, 62]⟩] 9)) w2.heap.size 3) := Lib.hid (litN_new (cs := [.string ⟨#[60, 103, 62]⟩, .string ⟨#[60, 104, 62]⟩, .string ⟨#[60, 107, 62]⟩]) rfl)
          have hne : w2.heap.size ≠ g := fun e => by have := R1.out.2.1; omega
          clear O1 R1
          clear G1
          refine wpAny_take (i := 4) (v := ?_) rfl (by kernel_rfl) (by kernel_rfl) (by kernel_rfl) (fun _ _ _ h => h) (Or.inl ⟨by kernel_rfl, ?_⟩) ?_
          rotate_left
          · intro w; go_simp; try with_reducible rfl
          refine wpAny_ready (rs := [5, 7]) (by kernel_rfl) (by simp) ?_
          refine (AllReady.cons rfl (fun K hK => ?_) (AllReady.cons rfl (fun K hK => ?_) AllReady.nil))
          · obtain ⟨s, hs, hcs⟩ := N2.out.2 m hm3
            go_simp
            refine hK _ _ ?_
            clear hK K
            refine wpAny_ready (rs := [7]) (by kernel_rfl) (by simp) ?_
            refine (AllReady.cons rfl (fun K hK => ?_) AllReady.nil)
            go_simp
            refine (rdTriple B g _ R2.out).mono ?_
            rintro e w3 ⟨t0, t1, t2, ht0, ht1, ht2, rfl, r, gg⟩
            have O3 := Lib.hid (O2.out.grown gg (fun j hj => by cases hj; exact hgw))
            have R3 := Lib.hid r
            have G3 := Lib.hid (G2.out.trans gg)
            have N3 := Lib.hid (N2.out.grown gg hne)
            clear gg r O2 R2 G2 N2
            go_wp2_with fail
            refine wpAny_ready (rs := [8]) (by kernel_rfl) (by simp) ?_
            refine (AllReady.cons rfl (fun K hK => ?_) AllReady.nil)
            go_simp
            obtain ⟨x2, y2, e2, i2⟩ := O3.out.is hsm.out.1.all
            rw [HL.out] at e2 i2
            simp only [Value.slice.injEq, true_and] at e2
            obtain ⟨rfl, rfl⟩ := e2
            have HW := Lib.hid (hsm.out.1.with_ (s := s) (t := (t0, t1, t2)) (by omega) ⟨ht0.2, ht1, ht2⟩)
            have C := specDataWith x L y ts s t0 t1 t2 _ i2 hsm.out.1.smN (by omega) (by omega) (by have := hsm.out.1.tot; omega)
            clear i2
            generalize dataWith ts s (t0, t1, t2) = dr at C HW
            refine C.mono ?_
            rintro e w4 ⟨v3, rfl, o3, hb3⟩
            have G4 := Lib.hid (G3.out.trans (grown_any (grown_of_below hb3) (some g)))
            have R4 := Lib.hid (rd_far R3.out hb3)
            have P4 := Lib.hid (o3.base G3.out.size)
            have O4 := Lib.hid (O3.out.grown (grown_of_below hb3) (by simp))
            clear o3 hb3 C O3 R3 G3
            go_wp2_with fail
            refine wpAny_take (i := 9) (v := ?_) rfl (by kernel_rfl) (by kernel_rfl) (by kernel_rfl) (fun _ _ _ h => h) (Or.inl ⟨by kernel_rfl, ?_⟩) ?_
            rotate_left
            · intro w; go_simp; try with_reducible rfl
            refine wpAny_take (i := 10) (v := ?_) rfl (by kernel_rfl) (by kernel_rfl) (by kernel_rfl) (fun _ _ _ h => h) (Or.inl ⟨by kernel_rfl, ?_⟩) ?_
            rotate_left
            · intro w; go_simp; try with_reducible rfl
            refine wpAny_take (i := 11) (v := ?_) rfl (by kernel_rfl) (by kernel_rfl) (by kernel_rfl) (fun _ _ _ h => h) (Or.inl ⟨by kernel_rfl, ?_⟩) ?_
            rotate_left
            · intro w; go_simp; try with_reducible rfl
            refine wpAny_take (i := 12) (v := ?_) rfl (by kernel_rfl) (by kernel_rfl) (by kernel_rfl) (fun _ _ _ h => h) (Or.inl ⟨by kernel_rfl, ?_⟩) ?_
            rotate_left
            · intro w; go_simp; try with_reducible rfl
            refine wpAny_take (i := 13) (v := ?_) rfl (by kernel_rfl) (by kernel_rfl) (by kernel_rfl) (fun _ _ _ h => h) (Or.inl ⟨by kernel_rfl, ?_⟩) ?_
            rotate_left
            · intro w; go_simp; try with_reducible rfl
            refine wpAny_done (by kernel_rfl) ?_ _
            try simp only [Act.put, List.setIfInBounds_toArray, List.set_cons_zero, List.set_cons_succ, List.getElem_toArray, List.getElem_cons_zero, List.getElem_cons_succ]
            cases dr with
            | none =>
              go_wp2_with fail
              go_roundw
              case rel => exact ⟨j - 1, .slice x L y, ts, by omega, by rw [show ((j - 1 : Nat) : Int) = (j : Int) - 1 from by omega], rfl, hsm, O4, R4, G4.out⟩
              case measure => simp [intOf]; omega
            | some us =>
              go_wp2_with fail
              go_roundw
              case rel => exact ⟨j - 1, v3, us, by omega, by rw [show ((j - 1 : Nat) : Int) = (j : Int) - 1 from by omega], rfl, HW, P4, R4, G4.out⟩
              case measure => simp [intOf]; omega
          · go_simp
            refine (rdTriple B g _ R2.out).mono ?_
            rintro e w3 ⟨t0, t1, t2, ht0, ht1, ht2, rfl, r, gg⟩
            have O3 := Lib.hid (O2.out.grown gg (fun j hj => by cases hj; exact hgw))
            have R3 := Lib.hid r
            have G3 := Lib.hid (G2.out.trans gg)
            have N3 := Lib.hid (N2.out.grown gg hne)
            clear gg r O2 R2 G2 N2
            go_wp2_with fail
            refine wpAny_ready (rs := [5]) (by kernel_rfl) (by simp) ?_
            refine (AllReady.cons rfl (fun K hK => ?_) AllReady.nil)
            obtain ⟨s, hs, hcs⟩ := N3.out.2 m hm3
            go_simp
            refine hK _ _ ?_
            clear hK K
            refine wpAny_ready (rs := [8]) (by kernel_rfl) (by simp) ?_
            refine (AllReady.cons rfl (fun K hK => ?_) AllReady.nil)
            go_simp
            obtain ⟨x2, y2, e2, i2⟩ := O3.out.is hsm.out.1.all
            rw [HL.out] at e2 i2
            simp only [Value.slice.injEq, true_and] at e2
            obtain ⟨rfl, rfl⟩ := e2
            have HW := Lib.hid (hsm.out.1.with_ (s := s) (t := (t0, t1, t2)) (by omega) ⟨ht0.2, ht1, ht2⟩)
            have C := specDataWith x L y ts s t0 t1 t2 _ i2 hsm.out.1.smN (by omega) (by omega) (by have := hsm.out.1.tot; omega)
            clear i2
            generalize dataWith ts s (t0, t1, t2) = dr at C HW
            refine C.mono ?_
            rintro e w4 ⟨v3, rfl, o3, hb3⟩
            have G4 := Lib.hid (G3.out.trans (grown_any (grown_of_below hb3) (some g)))
            have R4 := Lib.hid (rd_far R3.out hb3)
            have P4 := Lib.hid (o3.base G3.out.size)
            have O4 := Lib.hid (O3.out.grown (grown_of_below hb3) (by simp))
            clear o3 hb3 C O3 R3 G3
            go_wp2_with fail
            refine wpAny_take (i := 9) (v := ?_) rfl (by kernel_rfl) (by kernel_rfl) (by kernel_rfl) (fun _ _ _ h => h) (Or.inl ⟨by kernel_rfl, ?_⟩) ?_
            rotate_left
            · intro w; go_simp; try with_reducible rfl
            refine wpAny_take (i := 10) (v := ?_) rfl (by kernel_rfl) (by kernel_rfl) (by kernel_rfl) (fun _ _ _ h => h) (Or.inl ⟨by kernel_rfl, ?_⟩) ?_
            rotate_left
            · intro w; go_simp; try with_reducible rfl
            refine wpAny_take (i := 11) (v := ?_) rfl (by kernel_rfl) (by kernel_rfl) (by kernel_rfl) (fun _ _ _ h => h) (Or.inl ⟨by kernel_rfl, ?_⟩) ?_
            rotate_left
            · intro w; go_simp; try with_reducible rfl
            refine wpAny_take (i := 12) (v := ?_) rfl (by kernel_rfl) (by kernel_rfl) (by kernel_rfl) (fun _ _ _ h => h) (Or.inl ⟨by kernel_rfl, ?_⟩) ?_
            rotate_left
            · intro w; go_simp; try with_reducible rfl
            refine wpAny_take (i := 13) (v := ?_) rfl (by kernel_rfl) (by kernel_rfl) (by kernel_rfl) (fun _ _ _ h => h) (Or.inl ⟨by kernel_rfl, ?_⟩) ?_
            rotate_left
            · intro w; go_simp; try with_reducible rfl
            refine wpAny_done (by kernel_rfl) ?_ _
            try simp only [Act.put, List.setIfInBounds_toArray, List.set_cons_zero, List.set_cons_succ, List.getElem_toArray, List.getElem_cons_zero, List.getElem_cons_succ]
            cases dr with
            | none =>
              go_wp2_with fail
              go_roundw
              case rel => exact ⟨j - 1, .slice x L y, ts, by omega, by rw [show ((j - 1 : Nat) : Int) = (j : Int) - 1 from by omega], rfl, hsm, O4, R4, G4.out⟩
              case measure => simp [intOf]; omega
            | some us =>
              go_wp2_with fail
              go_roundw
              case rel => exact ⟨j - 1, v3, us, by omega, by rw [show ((j - 1 : Nat) : Int) = (j : Int) - 1 from by omega], rfl, HW, P4, R4, G4.out⟩
              case measure => simp [intOf]; omega
        · go_simp
          refine (rdTriple B g _ R1.out).mono ?_
          rintro e w3 ⟨t0, t1, t2, ht0, ht1, ht2, rfl, r, gg⟩
          have O2 := Lib.hid (O1.out.grown gg (fun j hj => by cases hj; exact hgw))
          have R2 := Lib.hid r
          have G2 := Lib.hid (G1.out.trans gg)
          clear gg r O1 R1 G1
          go_wp2_with fail
          refine wpAny_ready (rs := [1]) (by kernel_rfl) (by simp) ?_
          refine (AllReady.cons rfl (fun K hK => ?_) AllReady.nil)
          go_simp
          refine hK _ _ ?_
          clear hK K
          have O3 := Lib.hid (O2.out.grown (World.grownBy_alloc w3 (.cells #[.string ⟨#[60, 103, 62]⟩, .string ⟨#[60, 104, 62]⟩, .string ⟨#[60, 107, 62]⟩] 9) (some g)) (fun j hj => by cases hj; exact hgw))
          have R3 := Lib.hid (R2.out.alloc (.cells #[.string ⟨#[60, 103, 62]⟩, .string ⟨#[60, 104, 62]⟩, .string ⟨#[60, 107, 62]⟩] 9))
          have G3 := Lib.hid (G2.out.trans (World.grownBy_alloc w3 (.cells #[.string ⟨#[60, 103, 62]⟩, .string ⟨#[60, 104, 62]⟩, .string ⟨#[60, 107, 62]⟩] 9) (some g)))
          have N3 : Hid (LitN (w3.alloc (.cells #[.string ⟨#[60, 103, 62]⟩, .string ⟨#[60, 104, 62]⟩, .string ⟨#[60, 107, 62]⟩] 9)) w3.heap.size 3) := Lib.hid (litN_new (cs := [.string ⟨#[60, 103, 62]⟩, .string ⟨#[60, 104, 62]⟩, .string ⟨#[60, 107, 62]⟩]) rfl)
          have hne : w3.heap.size ≠ g := fun e => by have := R2.out.2.1; omega
          clear O2 R2
          clear G2
          refine wpAny_take (i := 4) (v := ?_) rfl (by kernel_rfl) (by kernel_rfl) (by kernel_rfl) (fun _ _ _ h => h) (Or.inl ⟨by kernel_rfl, ?_⟩) ?_
          rotate_left
          · intro w; go_simp; try with_reducible rfl
          refine wpAny_ready (rs := [5]) (by kernel_rfl) (by simp) ?_
          refine (AllReady.cons rfl (fun K hK => ?_) AllReady.nil)
          obtain ⟨s, hs, hcs⟩ := N3.out.2 m hm3
          go_simp
          refine hK _ _ ?_
          clear hK K
          refine wpAny_ready (rs := [8]) (by kernel_rfl) (by simp) ?_
          refine (AllReady.cons rfl (fun K hK => ?_) AllReady.nil)
          go_simp
          obtain ⟨x2, y2, e2, i2⟩ := O3.out.is hsm.out.1.all
          rw [HL.out] at e2 i2
          simp only [Value.slice.injEq, true_and] at e2
          obtain ⟨rfl, rfl⟩ := e2
          have HW := Lib.hid (hsm.out.1.with_ (s := s) (t := (t0, t1, t2)) (by omega) ⟨ht0.2, ht1, ht2⟩)
          have C := specDataWith x L y ts s t0 t1 t2 _ i2 hsm.out.1.smN (by omega) (by omega) (by have := hsm.out.1.tot; omega)
          clear i2
          generalize dataWith ts s (t0, t1, t2) = dr at C HW
          refine C.mono ?_
          rintro e w4 ⟨v3, rfl, o3, hb3⟩
          have G4 := Lib.hid (G3.out.trans (grown_any (grown_of_below hb3) (some g)))
          have R4 := Lib.hid (rd_far R3.out hb3)
          have P4 := Lib.hid (o3.base G3.out.size)
          have O4 := Lib.hid (O3.out.grown (grown_of_below hb3) (by simp))
          clear o3 hb3 C O3 R3 G3
          go_wp2_with fail
          refine wpAny_take (i := 9) (v := ?_) rfl (by kernel_rfl) (by kernel_rfl) (by kernel_rfl) (fun _ _ _ h => h) (Or.inl ⟨by kernel_rfl, ?_⟩) ?_
          rotate_left
          · intro w; go_simp; try with_reducible rfl
          refine wpAny_take (i := 10) (v := ?_) rfl (by kernel_rfl) (by kernel_rfl) (by kernel_rfl) (fun _ _ _ h => h) (Or.inl ⟨by kernel_rfl, ?_⟩) ?_
          rotate_left
          · intro w; go_simp; try with_reducible rfl
          refine wpAny_take (i := 11) (v := ?_) rfl (by kernel_rfl) (by kernel_rfl) (by kernel_rfl) (fun _ _ _ h => h) (Or.inl ⟨by kernel_rfl, ?_⟩) ?_
          rotate_left
          · intro w; go_simp; try with_reducible rfl
          refine wpAny_take (i := 12) (v := ?_) rfl (by kernel_rfl) (by kernel_rfl) (by kernel_rfl) (fun _ _ _ h => h) (Or.inl ⟨by kernel_rfl, ?_⟩) ?_
          rotate_left
          · intro w; go_simp; try with_reducible rfl
          refine wpAny_take (i := 13) (v := ?_) rfl (by kernel_rfl) (by kernel_rfl) (by kernel_rfl) (fun _ _ _ h => h) (Or.inl ⟨by kernel_rfl, ?_⟩) ?_
          rotate_left
          · intro w; go_simp; try with_reducible rfl
          refine wpAny_done (by kernel_rfl) ?_ _
          try simp only [Act.put, List.setIfInBounds_toArray, List.set_cons_zero, List.set_cons_succ, List.getElem_toArray, List.getElem_cons_zero, List.getElem_cons_succ]
          cases dr with
          | none =>
            go_wp2_with fail
            go_roundw
            case rel => exact ⟨j - 1, .slice x L y, ts, by omega, by rw [show ((j - 1 : Nat) : Int) = (j : Int) - 1 from by omega], rfl, hsm, O4, R4, G4.out⟩
            case measure => simp [intOf]; omega
          | some us =>
            go_wp2_with fail
            go_roundw
            case rel => exact ⟨j - 1, v3, us, by omega, by rw [show ((j - 1 : Nat) : Int) = (j : Int) - 1 from by omega], rfl, HW, P4, R4, G4.out⟩
            case measure => simp [intOf]; omega
    · obtain rfl : j = 0 := by omega
      have HO := Lib.hid (rdOnce B g wr hrd.out 30 (by omega) (by omega))
      go_wp2_with fail
      refine HO.out.mono ?_
      rintro e w2 ⟨bb, rfl, r2, g2⟩
      have G2 := hg.trans g2
      have O2 := Lib.hid (hown.out.grown g2 (fun j hj => by cases hj; exact hgw))
      have R2 := Lib.hid r2
      clear hrd hown g2 r2 HO hg
      cases bb
      · go_wp2_with fail
        go_ret
        exact ⟨_, ts, rfl, hsm.out.1, O2.out.rd, R2.out, G2⟩
      · by_cases hL0 : 0 < L
        · have hL1 : (0 : Int) < (L : Int) := by omega
          obtain ⟨us, o1, o2, o3⟩ := O2.out
          have ht : ts[0]? = some (ts[0]'(by have := HL.out; omega)) := List.getElem?_eq_getElem _
          have hu : us[0]? = some (us[0]'(by have := o2.1; have := HL.out; omega)) := List.getElem?_eq_getElem _
          have hsz := hsm.out.1.2 _ (List.mem_of_getElem? ht)
          obtain ⟨f0, f1⟩ := flatN_at ts us o2.1 0 _ _ ht hu
          have OI := o2.2.1 0 _ _ hu ht
          have hvu := o3 _ (List.mem_of_getElem? hu)
          generalize ts[0]'(by have := HL.out; omega) = t at ht f0 f1 OI hsz
          generalize us[0]'(by have := o2.1; have := HL.out; omega) = u at hu f0 f1 OI hvu
          obtain ⟨b, c, e⟩ : ∃ b c, x = some ⟨b, 0, none⟩ ∧ y = c := by
            rcases o1.2 with ⟨e, _⟩ | ⟨b, c, cur, e, _⟩
            · simp only [Value.slice.injEq] at e; omega
            · simp only [Value.slice.injEq] at e; exact ⟨b, c, e.1, e.2.2⟩
          obtain ⟨rfl, rfl⟩ := e
          have o1' := o1
          rw [HL.out] at o1'
          have c0 : w2.cell? ⟨b, 0, none⟩ = some (.string t.1) := (World.ownsRow.cellAt o1' 0 (by omega)).trans f0
          have c1 : w2.cell? ⟨b, 1, none⟩ = some u := (World.ownsRow.cellAt o1' 1 (by omega)).trans f1
          obtain ⟨ua, un, uc, rfl⟩ := NamK.own_slice OI
          have HS : Hid (SmD (ts ++ [t])) := Lib.hid ⟨by rw [List.length_append, HL.out]; simp; omega, fun r hr => by
            rcases List.mem_append.1 hr with h | h
            · exact hsm.out.1.2 r h
            · obtain rfl := List.mem_singleton.1 h
              exact hsz⟩
          have HRD := Lib.hid (O2.out.rd.grown (World.grownBy_alloc w2 (.cells #[.string t.1, .slice ua un uc] 31) none) (by simp))
          have HOI := Lib.hid (World.ownsRow.alloc OI (.cells #[.string t.1, .slice ua un uc] 31))
          have HXB := Lib.hid (Box2.new w2 (.string t.1) (.slice ua un uc) 31).cells
          have HVU := Lib.hid hvu
          have HBL := Lib.hid (fun j hj => World.ownsRow.lt o1 j hj)
          have RA := Lib.hid (R2.out.alloc (.cells #[.string t.1, .slice ua un uc] 31))
          have GA := G2.trans (World.grownBy_alloc w2 (.cells #[.string t.1, .slice ua un uc] 31) (some g))
          have hz2 := G2.size
          clear ht hu f0 f1 OI hvu o1 o2 o3 o1' R2 O2 hsz G2
          go_wp2_with (at_builtin; refine wpList_dupN rfl _ _ rfl rfl HRD.out (by simp; omega) w2.heap.size rfl HXB.out HOI.out HVU.out (by rw [HL.out]; omega) ?_)
          intro v3 w3 o3 hg3
          have R3 := RA.out.grown hg3 (fun q e => by have h1 := (HBL.out q e).1; omega)
          have G3 := grown_off GA hg3 (fun q e => (HBL.out q e).1)
          have O3 := Lib.hid o3
          clear hg3 RA GA HRD HOI HXB HVU HBL c0 c1 o3
          go_wp2_with fail
          go_ret
          exact ⟨v3, _, rfl, HS.out, O3.out, R3, G3⟩
        · obtain rfl : L = 0 := by omega
          go_wp2_with fail
          go_ret
          exact ⟨_, ts, rfl, hsm.out.1, O2.out.rd, R2.out, G2⟩
end Go.Proofs.Ythnpchcfjkepaaa
/- What is drawn for With and Without. -/
namespace Go.Proofs.Ythnpchcfjkepaaa
open Go.RowKit Go.WideShapes
theorem own_off {B g : Nat} {w : World} {v : Value} {ts : List Tri3} (h : OwnT B w v ts) (hg : g < B) (i : Nat) (u : Value) : OwnT B (w.setCell ⟨g, i, none⟩ u) v ts := by
  refine World.ownsRow.kept h (row := some g) ⟨rfl, rfl, rfl, by simp [World.setCell], fun k _ hne => Below.heap_setCell _ _ _ _ (fun e => hne (by rw [e]))⟩ ?_
  rcases hv : v.ownBlock with _ | q
  · exact .inl rfl
  · refine .inr fun e => ?_
    have := (World.ownsRow.lt h q hv).1
    cases e
    omega
/-- One of the triples, and its cells. -/
theorem pick_of {B L : Nat} {w : World} {x : Option Addr} {y : Nat} {ts : List Tri3} (h : OwnT B w (.slice x L y) ts) (hs : SmG ts) (hL : ts.length = L) {m : Nat} (hm : m < L) :
    ∃ (b off : Nat) (u : Tri3), x = some ⟨b, off, none⟩ ∧ w.cell? ⟨b, off + m * 3, none⟩ = some (.string u.1) ∧ w.cell? ⟨b, off + m * 3 + 1, none⟩ = some (.string u.2.1) ∧ w.cell? ⟨b, off + m * 3 + 2, none⟩ = some (.string u.2.2) ∧ u.1.size ≤ 20 ∧ u.2.1.size ≤ 20 ∧ u.2.2.size ≤ 20 := by
  obtain ⟨x2, y2, hv, i2⟩ := h.is hs.maxLen
  rw [hL] at hv i2
  simp only [Value.slice.injEq, true_and] at hv
  obtain ⟨rfl, rfl⟩ := hv
  obtain ⟨b1, off, rfl, _, _, _, hts, hcs⟩ := i2.cells (by omega)
  have ht : ts[m]? = some (ts[m]'(by omega)) := List.getElem?_eq_getElem (by omega)
  obtain ⟨c0, c1, c2, _⟩ := hcs m _ ht
  exact ⟨b1, off, _, rfl, c0, c1, c2, hs.2 _ (List.mem_of_getElem? ht)⟩
end Go.Proofs.Ythnpchcfjkepaaa
