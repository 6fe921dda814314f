/- The program's With, Without and Union. -/
import Derived.Test.YtinmjbgljgljkaaTSet
import Derived.Test.YtinmjbgljgljkaaGraph
import Derived.Test.YtinmjbgljgljkaaBox
namespace Go.Proofs.Ytinmjbgljgljkaa
open Go.RowKit Go.WideShapes Go.Maps
/-- A graph and true, or none and false. -/
def ResPost (r : Option (List Tri3)) (w : World) (e : Ending) (w' : World) : Prop :=
  ∃ v, e = .returned (.tuple #[v, .bool r.isSome]) ∧ OwnT w.heap.size w' v (r.getD []) ∧ Below w.heap.size w w'
theorem ResPost.no {w w' : World} (hb : Below w.heap.size w w') : ResPost none w (.returned (.tuple #[.slice none 0 0, .bool false])) w' := ⟨_, rfl, World.ownsRow_nil .., hb⟩
theorem ResPost.yes {w w' : World} {v : Value} {ts : List Tri3} (h : OwnT w.heap.size w' v ts) (hb : Below w.heap.size w w') : ResPost (some ts) w (.returned (.tuple #[v, .bool true])) w' := ⟨_, rfl, h, hb⟩
theorem ResPost.far {r : Option (List Tri3)} {w w0 w' : World} {e : Ending} (h : ResPost r w0 e w') (hb : Below w.heap.size w w0) : ResPost r w e w' := by
  obtain ⟨v, he, ho, hb'⟩ := h
  exact ⟨v, he, own_base ho hb.size, hb.trans (hb'.mono hb.size)⟩
def ofSet (ts : List Tri3) : Option (List Tri3) := if ts.length ≤ 80 then some (sortT ts) else none
set_option maxRecDepth 100000 in
set_option maxHeartbeats 800000 in
theorem implGraphOf (b m : Nat) (ts : List Tri3) (w : World) (h : OwnSet w b m ts) (hm : m ≤ 1001) :
    Calls Try.prog 66 #[.map (some b)] w (ResPost (ofSet ts) w) := by
  have hle := h.size_le
  have C := Lib.hid (implInOrder b m ts w h (by omega))
  have H := Lib.hid h
  clear h
  by_cases g : (80 : Int) < (ts.length : Int)
  · have HR : Hid (ofSet ts = none) := Lib.hid (by unfold ofSet; rw [if_neg (by omega)])
    go_enter Try.func66, Try.ntmps66
    go_wp2_with (at_len; refine wpList_count _ rfl _ rfl b m ts rfl H.out ?_)
    go_wp2_with fail
    go_ret2
    rw [HR.out]
    exact ResPost.no (Below.refl _ _)
  · have HR : Hid (ofSet ts = some (sortT ts)) := Lib.hid (by unfold ofSet; rw [if_pos (by omega)])
    go_enter Try.func66, Try.ntmps66
    go_wp2_with (at_len; refine wpList_count _ rfl _ rfl b m ts rfl H.out ?_)
    go_wp2_with fail
    refine C.out.mono ?_
    rintro e w1 ⟨v, rfl, ho, hb⟩
    go_wp2_with fail
    go_ret2
    rw [HR.out]
    exact ResPost.yes ho hb
theorem ofSet_with {ts us : List Tri3} {t : Tri3} (hg : graphOk ts = true) (ht : okT t = true) (hn : us.Nodup) (hm : ∀ u, u ∈ us ↔ u ∈ ts ∨ u = t) : ofSet us = withT ts t := by
  have e := sort_with hg hn hm
  have l : us.length = (putT ts t).length := by rw [← e, sortT_len]
  unfold ofSet withT
  by_cases c : us.length ≤ 80
  · rw [if_pos c, if_pos ⟨hg, ht, by omega⟩, e]
  · rw [if_neg c, if_neg (fun h => c (by omega))]
theorem ofSet_without {ts us : List Tri3} {t : Tri3} (hg : graphOk ts = true) (ht : t ∈ ts) (hn : us.Nodup) (hm : ∀ u, u ∈ us ↔ u ≠ t ∧ u ∈ ts) : ofSet us = withoutT ts t := by
  have e := sort_without hg hn hm
  have l : us.length = (lessT ts t).length := by rw [← e, sortT_len]
  have := lessT_len ts t
  have := graphOk_len hg
  unfold ofSet withoutT
  rw [if_pos (by omega), if_pos ⟨hg, ht⟩, e]
theorem ofSet_union {a b us : List Tri3} (ha : graphOk a = true) (hb : graphOk b = true) (hn : us.Nodup) (hm : ∀ u, u ∈ us ↔ u ∈ a ∨ u ∈ b) : ofSet us = unionO a b := by
  have e := sort_union ha hn hm
  have l : us.length = (unionT a b).length := by rw [← e, sortT_len]
  unfold ofSet unionO
  by_cases c : us.length ≤ 80
  · rw [if_pos c, if_pos ⟨ha, hb, by omega⟩, e]
  · rw [if_neg c, if_neg (fun h => c (by omega))]
theorem allT_one (a : Option Addr) (len cap : Nat) (ts : List Tri3) : allT [(a, len, cap, ts)] = ts := by simp [allT]
set_option maxRecDepth 100000 in
set_option maxHeartbeats 1600000 in
theorem implWith (a : Option Addr) (len cap : Nat) (ts : List Tri3) (s p o : ByteArray) (w : World) (h : IsTris w a len cap ts) (hsm : Sm ts) (hs : s.size ≤ 2097152) (hp : p.size ≤ 2097152) (ho : o.size ≤ 2097152) :
    Calls Try.prog 26 #[.slice a len cap, .agg #[.string s, .string p, .string o]] w (ResPost (withT ts (s, p, o)) w) := by
  have A1 := implGraphOk a len cap ts (w.alloc (.cells #[.string s, .string p, .string o] 33)) (h.next ((Below.refl w.heap.size w).alloc (Nat.le_refl _) _)) hsm
  have A2 := implTripleOk s p o hs hp ho
  change ∀ w, Calls _ _ _ w fun e w' => e = .returned (.bool (okT (s, p, o))) ∧ Below w.heap.size w w' at A2
  have B0 := (Below.refl w.heap.size w).alloc (Nat.le_refl _) (.cells #[.string s, .string p, .string o] 33)
  have X0 := Box.new w (.string s) (.string p) (.string o) 33
  have h0 := h.next B0
  cases hg : graphOk ts
  · rw [hg] at A1
    have HR : Hid (withT ts (s, p, o) = none) := Lib.hid (by unfold withT; rw [hg]; simp)
    have C1 := Lib.hid A1
    clear A1 A2 hg h h0 hsm X0
    go_enter Try.func26, Try.ntmps26
    go_wp2_with fail
    refine C1.out.mono ?_
    rintro e w1 ⟨rfl, hb1⟩
    go_wp2_with fail
    go_ret2
    rw [HR.out]
    exact ResPost.no (B0.trans (hb1.mono B0.size))
  rw [hg] at A1
  cases ht : okT (s, p, o)
  · rw [ht] at A2
    have HR : Hid (withT ts (s, p, o) = none) := Lib.hid (by unfold withT; rw [ht]; simp)
    have C1 := Lib.hid A1
    have C2 := Lib.hid A2
    clear A1 A2 hg ht h h0 hsm
    go_enter Try.func26, Try.ntmps26
    go_wp2_with fail
    refine C1.out.mono ?_
    rintro e w1 ⟨rfl, hb1⟩
    have X1 := X0.next hb1
    obtain ⟨c0, c1, c2⟩ := X1.cells
    have B1 := B0.trans (hb1.mono B0.size)
    clear X0 hb1 B0
    go_wp2_with fail
    refine (C2.out _).mono ?_
    rintro e w2 ⟨rfl, hb2⟩
    go_wp2_with fail
    go_ret2
    rw [HR.out]
    exact ResPost.no (B1.trans (hb2.mono B1.size))
  rw [ht] at A2
  have hl := h.len
  have hl80 := graphOk_len hg
  have hall : (allT [(a, len, cap, ts)]).length ≤ 1000 := by rw [allT_one]; omega
  have HW : Hid (∀ us : List Tri3, us.Nodup → (∀ u, u ∈ us ↔ u ∈ ts ∨ u = (s, p, o)) → ofSet us = withT ts (s, p, o)) := Lib.hid (fun us hn hm => ofSet_with hg ht hn hm)
  have hsk : SmK (s, p, o) := ⟨by unfold maxLen; simp only; omega, by unfold maxLen; simp only; omega, by unfold maxLen; simp only; omega⟩
  have C1 := Lib.hid A1
  have C2 := Lib.hid A2
  have HALL := Lib.hid hall
  clear A1 A2 hg ht h hsm hl hl80 hall
  go_enter Try.func26, Try.ntmps26
  go_wp2_with fail
  refine C1.out.mono ?_
  rintro e w1 ⟨rfl, hb1⟩
  have X1 := X0.next hb1
  have h1 := h0.next hb1
  obtain ⟨c0, c1, c2⟩ := X1.cells
  have B1 := B0.trans (hb1.mono B0.size)
  clear X0 hb1 B0 h0
  go_wp2_with fail
  refine (C2.out _).mono ?_
  rintro e w2 ⟨rfl, hb2⟩
  have X2 := X1.next hb2
  have h2 := h1.next hb2
  have B2 := B1.trans (hb2.mono B1.size)
  clear X1 hb2 B1 h1 c0 c1 c2
  have T := implTripleSet w2.heap.size 1 [(a, len, cap, ts)] (w2.alloc (.cells #[.slice a len cap] 24)) rfl (by simp) (by omega) HALL.out (fun i x hx => by
    match i, hx with
    | 0, hx =>
      simp at hx; subst hx
      exact ⟨by simp, h2.next ((Below.refl w2.heap.size w2).alloc (Nat.le_refl _) _)⟩)
  rw [allT_one] at T
  have CT := Lib.hid T
  have B3 := B2.alloc B2.size (.cells #[.slice a len cap] 24)
  have X3 := X2.alloc (.cells #[.slice a len cap] 24)
  clear T h2 X2 B2
  go_wp2_with fail
  refine CT.out.mono ?_
  rintro e w4 ⟨b, m, rfl, hbb, hm, hown, hb4⟩
  have X4 := X3.next hb4
  obtain ⟨c0, c1, c2⟩ := X4.cells
  have B4 := B3.trans (hb4.mono B3.size)
  have hbl : w.heap.size ≤ b := Nat.le_trans B3.size hbb
  have H4 := Lib.hid hown
  have hml : m < maxLen := by unfold maxLen; omega
  clear hown hb4 X3 B3 CT
  go_wp2_with (at_mapUpdate; refine wpList_put _ rfl _ _ _ rfl b m (addAll [] ts) rfl H4.out hml (s, p, o) hsk rfl rfl ?_)
  intro w5 hown5 hg5
  have B5 : Below w.heap.size w w5 := B4.grown hg5 B4.size (fun r e => by cases e; exact hbl)
  have G := implGraphOf b (m + 1) _ w5 hown5 (by omega)
  rw [HW.out _ hown5.nodup (fun u => by rw [addT_mem, addAll_mem]; simp)] at G
  have CG := Lib.hid G
  clear G hown5 hg5 H4 B4 c0 c1 c2 X4
  go_wp2_with fail
  refine CG.out.mono ?_
  rintro e w6 hr
  obtain ⟨v, rfl, hv⟩ := hr.far B5
  go_wp2_with fail
  go_ret2
  exact ⟨v, rfl, hv⟩
open Go.RowKit Go.WideShapes Go.Maps
theorem zeroB (w : World) : (zeroValue 4).run Try.prog w = .ok (.bool false) w := by kernel_rfl
set_option maxRecDepth 100000 in
set_option maxHeartbeats 1600000 in
theorem implWithout (a : Option Addr) (len cap : Nat) (ts : List Tri3) (s p o : ByteArray) (w : World) (h : IsTris w a len cap ts) (hsm : Sm ts) (hs : s.size ≤ 2097152) (hp : p.size ≤ 2097152) (ho : o.size ≤ 2097152) :
    Calls Try.prog 28 #[.slice a len cap, .agg #[.string s, .string p, .string o]] w (ResPost (withoutT ts (s, p, o)) w) := by
  have A1 := implGraphOk a len cap ts (w.alloc (.cells #[.string s, .string p, .string o] 33)) (h.next ((Below.refl w.heap.size w).alloc (Nat.le_refl _) _)) hsm
  have A2 := implTripleOk s p o hs hp ho
  change ∀ w, Calls _ _ _ w fun e w' => e = .returned (.bool (okT (s, p, o))) ∧ Below w.heap.size w w' at A2
  have B0 := (Below.refl w.heap.size w).alloc (Nat.le_refl _) (.cells #[.string s, .string p, .string o] 33)
  have X0 := Box.new w (.string s) (.string p) (.string o) 33
  have h0 := h.next B0
  cases hg : graphOk ts
  · rw [hg] at A1
    have HR : Hid (withoutT ts (s, p, o) = none) := Lib.hid (by unfold withoutT; rw [hg]; simp)
    have C1 := Lib.hid A1
    clear A1 A2 hg h h0 hsm X0
    go_enter Try.func28, Try.ntmps28
    go_wp2_with fail
    refine C1.out.mono ?_
    rintro e w1 ⟨rfl, hb1⟩
    go_wp2_with fail
    go_ret2
    rw [HR.out]
    exact ResPost.no (B0.trans (hb1.mono B0.size))
  rw [hg] at A1
  cases ht : okT (s, p, o)
  · rw [ht] at A2
    have HR : Hid (withoutT ts (s, p, o) = none) := Lib.hid (by
      unfold withoutT
      rw [if_neg]
      rintro ⟨_, hm⟩
      rw [graphOk_okT hg _ hm] at ht
      cases ht)
    have C1 := Lib.hid A1
    have C2 := Lib.hid A2
    clear A1 A2 hg ht h h0 hsm
    go_enter Try.func28, Try.ntmps28
    go_wp2_with fail
    refine C1.out.mono ?_
    rintro e w1 ⟨rfl, hb1⟩
    have X1 := X0.next hb1
    obtain ⟨c0, c1, c2⟩ := X1.cells
    have B1 := B0.trans (hb1.mono B0.size)
    clear X0 hb1 B0
    go_wp2_with fail
    refine (C2.out _).mono ?_
    rintro e w2 ⟨rfl, hb2⟩
    go_wp2_with fail
    go_ret2
    rw [HR.out]
    exact ResPost.no (B1.trans (hb2.mono B1.size))
  rw [ht] at A2
  have hl := h.len
  have hl80 := graphOk_len hg
  have hall : (allT [(a, len, cap, ts)]).length ≤ 1000 := by rw [allT_one]; omega
  have HW : Hid ((s, p, o) ∈ ts → ∀ us : List Tri3, us.Nodup → (∀ u, u ∈ us ↔ u ≠ (s, p, o) ∧ u ∈ ts) → ofSet us = withoutT ts (s, p, o)) := Lib.hid (fun hin us hn hm => ofSet_without hg hin hn hm)
  have HN : Hid ((s, p, o) ∉ ts → withoutT ts (s, p, o) = none) := Lib.hid (fun hin => by unfold withoutT; rw [if_neg (fun h => hin h.2)])
  have hsk : SmK (s, p, o) := ⟨by unfold maxLen; simp only; omega, by unfold maxLen; simp only; omega, by unfold maxLen; simp only; omega⟩
  have C1 := Lib.hid A1
  have C2 := Lib.hid A2
  have HALL := Lib.hid hall
  have HZ := Lib.hid zeroB
  clear A1 A2 hg ht h hsm hl hl80 hall
  go_enter Try.func28, Try.ntmps28
  go_wp2_with fail
  refine C1.out.mono ?_
  rintro e w1 ⟨rfl, hb1⟩
  have X1 := X0.next hb1
  have h1 := h0.next hb1
  obtain ⟨c0, c1, c2⟩ := X1.cells
  have B1 := B0.trans (hb1.mono B0.size)
  clear X0 hb1 B0 h0
  go_wp2_with fail
  refine (C2.out _).mono ?_
  rintro e w2 ⟨rfl, hb2⟩
  have X2 := X1.next hb2
  have h2 := h1.next hb2
  have B2 := B1.trans (hb2.mono B1.size)
  clear X1 hb2 B1 h1 c0 c1 c2
  have T := implTripleSet w2.heap.size 1 [(a, len, cap, ts)] (w2.alloc (.cells #[.slice a len cap] 24)) rfl (by simp) (by omega) HALL.out (fun i x hx => by
    match i, hx with
    | 0, hx =>
      simp at hx; subst hx
      exact ⟨by simp, h2.next ((Below.refl w2.heap.size w2).alloc (Nat.le_refl _) _)⟩)
  rw [allT_one] at T
  have CT := Lib.hid T
  have B3 := B2.alloc B2.size (.cells #[.slice a len cap] 24)
  have X3 := X2.alloc (.cells #[.slice a len cap] 24)
  clear T h2 X2 B2
  go_wp2_with fail
  refine CT.out.mono ?_
  rintro e w4 ⟨b, m, rfl, hbb, hm, hown, hb4⟩
  have X4 := X3.next hb4
  obtain ⟨c0, c1, c2⟩ := X4.cells
  have B4 := B3.trans (hb4.mono B3.size)
  have hbl : w.heap.size ≤ b := Nat.le_trans B3.size hbb
  have H4 := Lib.hid hown
  clear hown hb4 X3 B3 CT
  by_cases hin : (s, p, o) ∈ ts
  · have hd : Hid (decide ((s, p, o) ∈ addAll [] ts) = true) := Lib.hid (decide_eq_true (addAll_mem.2 (.inr hin)))
    have HW2 := Lib.hid (HW.out hin)
    clear hin HW HN
    go_wp2_with (first
      | (at_lookup; refine wpList_look _ rfl _ _ rfl b m (addAll [] ts) rfl H4.out (s, p, o) hsk rfl (HZ.out _) ?_; rw [hd.out])
      | (at_delete; refine wpList_drop _ rfl _ _ rfl b m (addAll [] ts) rfl H4.out (s, p, o) hsk rfl ?_))
    intro w5 hown5 hg5
    have B5 : Below w.heap.size w w5 := B4.grown hg5 B4.size (fun r e => by cases e; exact hbl)
    have G := implGraphOf b m _ w5 hown5 (by omega)
    rw [HW2.out _ hown5.nodup (fun u => by rw [lessT_mem, addAll_mem]; simp)] at G
    have CG := Lib.hid G
    clear G hown5 hg5 H4 B4 c0 c1 c2 X4
    go_wp2_with fail
    refine CG.out.mono ?_
    rintro e w6 hr
    obtain ⟨v, rfl, hv⟩ := hr.far B5
    go_wp2_with fail
    go_ret2
    exact ⟨v, rfl, hv⟩
  · have hd : Hid (decide ((s, p, o) ∈ addAll [] ts) = false) := Lib.hid (decide_eq_false (fun h => by
      rcases addAll_mem.1 h with h | h
      · simp at h
      · exact hin h))
    have HR := Lib.hid (HN.out hin)
    clear hin HW HN
    go_wp2_with (at_lookup; refine wpList_look _ rfl _ _ rfl b m (addAll [] ts) rfl H4.out (s, p, o) hsk rfl (HZ.out _) ?_; rw [hd.out])
    go_wp2_with fail
    go_ret2
    rw [HR.out]
    exact ResPost.no B4
theorem allT_two (a b : Option Addr) (la ca lb cb : Nat) (ts us : List Tri3) : allT [(a, la, ca, ts), (b, lb, cb, us)] = ts ++ us := by simp [allT]
set_option maxRecDepth 100000 in
set_option maxHeartbeats 1600000 in
theorem implUnion (a b : Option Addr) (la ca lb cb : Nat) (ts us : List Tri3) (w : World) (h : IsTris w a la ca ts) (k : IsTris w b lb cb us) (hsm : Sm ts) (ksm : Sm us) :
    Calls Try.prog 34 #[.slice a la ca, .slice b lb cb] w (ResPost (unionO ts us) w) := by
  have A1 := implGraphOk a la ca ts w h hsm
  cases hg : graphOk ts
  · rw [hg] at A1
    have HR : Hid (unionO ts us = none) := Lib.hid (by unfold unionO; rw [hg]; simp)
    have C1 := Lib.hid A1
    clear A1 hg h hsm k ksm
    go_enter Try.func34, Try.ntmps34
    go_wp2_with fail
    refine C1.out.mono ?_
    rintro e w1 ⟨rfl, hb1⟩
    go_wp2_with fail
    go_ret2
    rw [HR.out]
    exact ResPost.no hb1
  rw [hg] at A1
  have C1 := Lib.hid A1
  cases kg : graphOk us
  · have HR : Hid (unionO ts us = none) := Lib.hid (by unfold unionO; rw [kg]; simp)
    have HK := Lib.hid kg
    clear A1 hg kg h hsm
    go_enter Try.func34, Try.ntmps34
    go_wp2_with fail
    refine C1.out.mono ?_
    rintro e w1 ⟨rfl, hb1⟩
    have A2 := implGraphOk b lb cb us w1 (k.next hb1) ksm
    rw [HK.out] at A2
    have C2 := Lib.hid A2
    clear A2 k ksm
    go_wp2_with fail
    refine C2.out.mono ?_
    rintro e w2 ⟨rfl, hb2⟩
    go_wp2_with fail
    go_ret2
    rw [HR.out]
    exact ResPost.no (hb1.trans (hb2.mono hb1.size))
  have HK := Lib.hid kg
  have hall : (allT [(a, la, ca, ts), (b, lb, cb, us)]).length ≤ 1000 := by
    have := graphOk_len hg
    have := graphOk_len kg
    rw [allT_two, List.length_append]; omega
  have HW : Hid (∀ vs : List Tri3, vs.Nodup → (∀ u, u ∈ vs ↔ u ∈ ts ∨ u ∈ us) → ofSet vs = unionO ts us) := Lib.hid (fun vs hn hm => ofSet_union hg kg hn hm)
  have HALL := Lib.hid hall
  clear A1 hg kg hsm hall
  go_enter Try.func34, Try.ntmps34
  go_wp2_with fail
  refine C1.out.mono ?_
  rintro e w1 ⟨rfl, hb1⟩
  have A2 := implGraphOk b lb cb us w1 (k.next hb1) ksm
  rw [HK.out] at A2
  have C2 := Lib.hid A2
  have h1 := h.next hb1
  have k1 := k.next hb1
  clear A2 h k ksm
  go_wp2_with fail
  refine C2.out.mono ?_
  rintro e w2 ⟨rfl, hb2⟩
  have h2 := h1.next hb2
  have k2 := k1.next hb2
  have B2 := hb1.trans (hb2.mono hb1.size)
  clear hb1 hb2 h1 k1
  have T := implTripleSet w2.heap.size 2 [(a, la, ca, ts), (b, lb, cb, us)] (w2.alloc (.cells #[.slice a la ca, .slice b lb cb] 24)) rfl (by simp) (by omega) HALL.out (fun i x hx => by
    match i, hx with
    | 0, hx =>
      simp at hx; subst hx
      exact ⟨by simp, h2.next ((Below.refl w2.heap.size w2).alloc (Nat.le_refl _) _)⟩
    | 1, hx =>
      simp at hx; subst hx
      exact ⟨by simp, k2.next ((Below.refl w2.heap.size w2).alloc (Nat.le_refl _) _)⟩)
  rw [allT_two] at T
  have CT := Lib.hid T
  have B3 := B2.alloc B2.size (.cells #[.slice a la ca, .slice b lb cb] 24)
  clear T h2 k2 B2
  go_wp2_with fail
  refine CT.out.mono ?_
  rintro e w4 ⟨c, m, rfl, hbb, hm, hown, hb4⟩
  have B4 := B3.trans (hb4.mono B3.size)
  have G := implGraphOf c m _ w4 hown (by omega)
  rw [HW.out _ hown.nodup (fun u => by rw [addAll_mem]; simp)] at G
  have CG := Lib.hid G
  clear G hown hb4 B3 CT
  go_wp2_with fail
  refine CG.out.mono ?_
  rintro e w6 hr
  obtain ⟨v, rfl, hv⟩ := hr.far B4
  go_wp2_with fail
  go_ret2
  exact ⟨v, rfl, hv⟩
end Go.Proofs.Ytinmjbgljgljkaa
