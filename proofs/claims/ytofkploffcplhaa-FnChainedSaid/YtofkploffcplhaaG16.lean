/- WithI, the rest. -/
import Derived.Test.YtofkploffcplhaaG12
import Derived.Test.YtofkploffcplhaaG15
import Derived.Test.YtofkploffcplhaaG10
namespace Go.Proofs.Ytofkploffcplhaa
open Go.RowKit Go.WideShapes Go.Maps
set_option maxRecDepth 100000 in
set_option maxHeartbeats 800000 in
theorem implGraphOf (b m : Nat) (ts : List Tri3) (w : World) (h : OwnSet w b m ts) (hm : m ≤ 1001) :
    Calls Try.prog 60 #[.map (some b)] w (ResPost (ofSet ts) w) := by
  have hle := h.size_le
  have C := Lib.hid (implInOrder b m ts w h (by omega))
  have H := Lib.hid h
  clear h
  by_cases g : (80 : Int) < (ts.length : Int)
  · have HR : Hid (ofSet ts = none) := Lib.hid (by unfold ofSet; rw [if_neg (by omega)])
    go_enter Try.func60, Try.ntmps60
    go_wp2_with (at_len; refine wpList_count _ rfl _ rfl b m ts rfl H.out ?_)
    go_wp2_with fail
    go_ret2
    rw [HR.out]
    exact ResPost.no (Below.refl _ _)
  · have HR : Hid (ofSet ts = some (sortT ts)) := Lib.hid (by unfold ofSet; rw [if_pos (by omega)])
    go_enter Try.func60, Try.ntmps60
    go_wp2_with (at_len; refine wpList_count _ rfl _ rfl b m ts rfl H.out ?_)
    go_wp2_with fail
    refine C.out.mono ?_
    rintro e w1 ⟨v, rfl, ho, hb⟩
    go_wp2_with fail
    go_ret2
    rw [HR.out]
    exact ResPost.yes ho hb
set_option maxRecDepth 100000 in
set_option maxHeartbeats 1600000 in
theorem implWith (a : Option Addr) (len cap : Nat) (ts : List Tri3) (s p o : ByteArray) (w : World) (h : IsTris w a len cap ts) (hsm : Sm ts) (hs : s.size ≤ 2097152) (hp : p.size ≤ 2097152) (ho : o.size ≤ 2097152) :
    Calls Try.prog 36 #[.slice a len cap, .agg #[.string s, .string p, .string o]] w (ResPost (withT ts (s, p, o)) w) := by
  have A1 := implGraphOk a len cap ts (w.alloc (.cells #[.string s, .string p, .string o] 55)) (h.next ((Below.refl w.heap.size w).alloc (Nat.le_refl _) _)) hsm
  have A2 := implTripleOk s p o hs hp ho
  change ∀ w, Calls _ _ _ w fun e w' => e = .returned (.bool (okT (s, p, o))) ∧ Below w.heap.size w w' at A2
  have B0 := (Below.refl w.heap.size w).alloc (Nat.le_refl _) (.cells #[.string s, .string p, .string o] 55)
  have X0 := Box.new w (.string s) (.string p) (.string o) 55
  have h0 := h.next B0
  cases hg : graphOk ts
  · rw [hg] at A1
    have HR : Hid (withT ts (s, p, o) = none) := Lib.hid (by unfold withT; rw [hg]; simp)
    have C1 := Lib.hid A1
    clear A1 A2 hg h h0 hsm X0
    go_enter Try.func36, Try.ntmps36
    go_wp2_with fail
    refine C1.out.mono ?_
    rintro e w1 ⟨rfl, hb1⟩
    go_wp2_with fail
    go_ret2
    rw [HR.out]
    exact ResPost.no (B0.trans (hb1.mono B0.size))
  rw [hg] at A1
  cases ht : okT (s, p, o)
  · rw [ht] at A2
    have HR : Hid (withT ts (s, p, o) = none) := Lib.hid (by unfold withT; rw [ht]; simp)
    have C1 := Lib.hid A1
    have C2 := Lib.hid A2
    clear A1 A2 hg ht h h0 hsm
    go_enter Try.func36, Try.ntmps36
    go_wp2_with fail
    refine C1.out.mono ?_
    rintro e w1 ⟨rfl, hb1⟩
    have X1 := X0.next hb1
    obtain ⟨c0, c1, c2⟩ := X1.cells
    have B1 := B0.trans (hb1.mono B0.size)
    clear X0 hb1 B0
    go_wp2_with fail
    refine (C2.out _).mono ?_
    rintro e w2 ⟨rfl, hb2⟩
    go_wp2_with fail
    go_ret2
    rw [HR.out]
    exact ResPost.no (B1.trans (hb2.mono B1.size))
  rw [ht] at A2
  have hl := h.len
  have hl80 := graphOk_len hg
  have hall : (allT [(a, len, cap, ts)]).length ≤ 1000 := by rw [allT_one]; omega
  have HW : Hid (∀ us : List Tri3, us.Nodup → (∀ u, u ∈ us ↔ u ∈ ts ∨ u = (s, p, o)) → ofSet us = withT ts (s, p, o)) := Lib.hid (fun us hn hm => ofSet_with hg ht hn hm)
  have hsk : SmK (s, p, o) := ⟨by unfold maxLen; simp only; omega, by unfold maxLen; simp only; omega, by unfold maxLen; simp only; omega⟩
  have C1 := Lib.hid A1
  have C2 := Lib.hid A2
  have HALL := Lib.hid hall
  clear A1 A2 hg ht h hsm hl hl80 hall
  go_enter Try.func36, Try.ntmps36
  go_wp2_with fail
  refine C1.out.mono ?_
  rintro e w1 ⟨rfl, hb1⟩
  have X1 := X0.next hb1
  have h1 := h0.next hb1
  obtain ⟨c0, c1, c2⟩ := X1.cells
  have B1 := B0.trans (hb1.mono B0.size)
  clear X0 hb1 B0 h0
  go_wp2_with fail
  refine (C2.out _).mono ?_
  rintro e w2 ⟨rfl, hb2⟩
  have X2 := X1.next hb2
  have h2 := h1.next hb2
  have B2 := B1.trans (hb2.mono B1.size)
  clear X1 hb2 B1 h1 c0 c1 c2
  have T := implTripleSet w2.heap.size 1 [(a, len, cap, ts)] (w2.alloc (.cells #[.slice a len cap] 27)) rfl (by simp) (by omega) HALL.out (fun i x hx => by
    match i, hx with
    | 0, hx =>
      simp at hx; subst hx
      exact ⟨by simp, h2.next ((Below.refl w2.heap.size w2).alloc (Nat.le_refl _) _)⟩)
  rw [allT_one] at T
  have CT := Lib.hid T
  have B3 := B2.alloc B2.size (.cells #[.slice a len cap] 27)
  have X3 := X2.alloc (.cells #[.slice a len cap] 27)
  clear T h2 X2 B2
  go_wp2_with fail
  refine CT.out.mono ?_
  rintro e w4 ⟨b, m, rfl, hbb, hm, hown, hb4⟩
  have X4 := X3.next hb4
  obtain ⟨c0, c1, c2⟩ := X4.cells
  have B4 := B3.trans (hb4.mono B3.size)
  have hbl : w.heap.size ≤ b := Nat.le_trans B3.size hbb
  have H4 := Lib.hid hown
  have hml : m < maxLen := by unfold maxLen; omega
  clear hown hb4 X3 B3 CT
  go_wp2_with (at_mapUpdate; refine wpList_putG _ rfl _ _ _ rfl b m (addAll [] ts) rfl H4.out hml (s, p, o) hsk rfl rfl ?_)
  intro w5 hown5 hg5
  have B5 : Below w.heap.size w w5 := B4.grown hg5 B4.size (fun r e => by cases e; exact hbl)
  have G := implGraphOf b (m + 1) _ w5 hown5 (by omega)
  rw [HW.out _ hown5.nodup (fun u => by rw [addT_mem, addAll_mem]; simp)] at G
  have CG := Lib.hid G
  clear G hown5 hg5 H4 B4 c0 c1 c2 X4
  go_wp2_with fail
  refine CG.out.mono ?_
  rintro e w6 hr
  obtain ⟨v, rfl, hv⟩ := hr.far B5
  go_wp2_with fail
  go_ret2
  exact ⟨v, rfl, hv⟩
open Go.RowKit Go.WideShapes Go.Maps
theorem zeroB (w : World) : (zeroValue 4).run Try.prog w = .ok (.bool false) w := by kernel_rfl
theorem allT_two (a b : Option Addr) (la ca lb cb : Nat) (ts us : List Tri3) : allT [(a, la, ca, ts), (b, lb, cb, us)] = ts ++ us := by simp [allT]
set_option maxRecDepth 100000 in
set_option maxHeartbeats 1600000 in
theorem implUnion (a b : Option Addr) (la ca lb cb : Nat) (ts us : List Tri3) (w : World) (h : IsTris w a la ca ts) (k : IsTris w b lb cb us) (hsm : Sm ts) (ksm : Sm us) :
    Calls Try.prog 50 #[.slice a la ca, .slice b lb cb] w (ResPost (unionO ts us) w) := by
  have A1 := implGraphOk a la ca ts w h hsm
  cases hg : graphOk ts
  · rw [hg] at A1
    have HR : Hid (unionO ts us = none) := Lib.hid (by unfold unionO; rw [hg]; simp)
    have C1 := Lib.hid A1
    clear A1 hg h hsm k ksm
    go_enter Try.func50, Try.ntmps50
    go_wp2_with fail
    refine C1.out.mono ?_
    rintro e w1 ⟨rfl, hb1⟩
    go_wp2_with fail
    go_ret2
    rw [HR.out]
    exact ResPost.no hb1
  rw [hg] at A1
  have C1 := Lib.hid A1
  cases kg : graphOk us
  · have HR : Hid (unionO ts us = none) := Lib.hid (by unfold unionO; rw [kg]; simp)
    have HK := Lib.hid kg
    clear A1 hg kg h hsm
    go_enter Try.func50, Try.ntmps50
    go_wp2_with fail
    refine C1.out.mono ?_
    rintro e w1 ⟨rfl, hb1⟩
    have A2 := implGraphOk b lb cb us w1 (k.next hb1) ksm
    rw [HK.out] at A2
    have C2 := Lib.hid A2
    clear A2 k ksm
    go_wp2_with fail
    refine C2.out.mono ?_
    rintro e w2 ⟨rfl, hb2⟩
    go_wp2_with fail
    go_ret2
    rw [HR.out]
    exact ResPost.no (hb1.trans (hb2.mono hb1.size))
  have HK := Lib.hid kg
  have hall : (allT [(a, la, ca, ts), (b, lb, cb, us)]).length ≤ 1000 := by
    have := graphOk_len hg
    have := graphOk_len kg
    rw [allT_two, List.length_append]; omega
  have HW : Hid (∀ vs : List Tri3, vs.Nodup → (∀ u, u ∈ vs ↔ u ∈ ts ∨ u ∈ us) → ofSet vs = unionO ts us) := Lib.hid (fun vs hn hm => ofSet_union hg kg hn hm)
  have HALL := Lib.hid hall
  clear A1 hg kg hsm hall
  go_enter Try.func50, Try.ntmps50
  go_wp2_with fail
  refine C1.out.mono ?_
  rintro e w1 ⟨rfl, hb1⟩
  have A2 := implGraphOk b lb cb us w1 (k.next hb1) ksm
  rw [HK.out] at A2
  have C2 := Lib.hid A2
  have h1 := h.next hb1
  have k1 := k.next hb1
  clear A2 h k ksm
  go_wp2_with fail
  refine C2.out.mono ?_
  rintro e w2 ⟨rfl, hb2⟩
  have h2 := h1.next hb2
  have k2 := k1.next hb2
  have B2 := hb1.trans (hb2.mono hb1.size)
  clear hb1 hb2 h1 k1
  have T := implTripleSet w2.heap.size 2 [(a, la, ca, ts), (b, lb, cb, us)] (w2.alloc (.cells #[.slice a la ca, .slice b lb cb] 27)) rfl (by simp) (by omega) HALL.out (fun i x hx => by
    match i, hx with
    | 0, hx =>
      simp at hx; subst hx
      exact ⟨by simp, h2.next ((Below.refl w2.heap.size w2).alloc (Nat.le_refl _) _)⟩
    | 1, hx =>
      simp at hx; subst hx
      exact ⟨by simp, k2.next ((Below.refl w2.heap.size w2).alloc (Nat.le_refl _) _)⟩)
  rw [allT_two] at T
  have CT := Lib.hid T
  have B3 := B2.alloc B2.size (.cells #[.slice a la ca, .slice b lb cb] 27)
  clear T h2 k2 B2
  go_wp2_with fail
  refine CT.out.mono ?_
  rintro e w4 ⟨c, m, rfl, hbb, hm, hown, hb4⟩
  have B4 := B3.trans (hb4.mono B3.size)
  have G := implGraphOf c m _ w4 hown (by omega)
  rw [HW.out _ hown.nodup (fun u => by rw [addAll_mem]; simp)] at G
  have CG := Lib.hid G
  clear G hown hb4 B3 CT
  go_wp2_with fail
  refine CG.out.mono ?_
  rintro e w6 hr
  obtain ⟨v, rfl, hv⟩ := hr.far B4
  go_wp2_with fail
  go_ret2
  exact ⟨v, rfl, hv⟩
end Go.Proofs.Ytofkploffcplhaa
/- RdG, the rest. -/
namespace Go.Proofs.Ytofkploffcplhaa
open Go.RowKit Go.WideShapes
open Go.RowKit Go.WideShapes
theorem SmG.union {ts us : List Tri3} (h : SmG ts) (k : SmG us) : SmG ((unionO ts us).getD []) := by
  cases e : unionO ts us with
  | none => exact ⟨by simp, by simp⟩
  | some g =>
    obtain ⟨_, _, rfl, hg⟩ := unionO_some e
    have hl := graphOk_len hg
    refine ⟨by simp only [Option.getD_some]; omega, fun u hu => ?_⟩
    rcases unionT_mem.1 hu with hu | hu
    · exact h.2 u hu
    · exact k.2 u hu
theorem implUnionG {v u : Value} {ts us : List Tri3} {w : World} (h : GotG w v ts) (k : GotG w u us) : Calls Try.prog 50 #[v, u] w (GotRes (unionO ts us) w) := by
  obtain ⟨x, c, rfl, hi, hp, hs⟩ := h
  obtain ⟨y, d, rfl, ki, kp, ks⟩ := k
  exact (implUnion x y _ c _ d ts us w hi ki hs.sm ks.sm).mono fun e w' g => gotRes (hs.union ks) g
theorem unionO_comm (a b : List Tri3) : unionO a b = unionO b a := by
  by_cases h : graphOk a = true ∧ graphOk b = true
  · have e : unionT a b = unionT b a := eq_of_rising (unionT_rising (graphOk_rising h.1)) (unionT_rising (graphOk_rising h.2)) (fun t => by rw [unionT_mem, unionT_mem]; exact or_comm)
    unfold unionO
    rw [e]
    by_cases c : (unionT b a).length ≤ 80
    · rw [if_pos ⟨h.1, h.2, c⟩, if_pos ⟨h.2, h.1, c⟩]
    · rw [if_neg (fun g => c g.2.2), if_neg (fun g => c g.2.2)]
  · unfold unionO
    rw [if_neg (fun g => h ⟨g.1, g.2.1⟩), if_neg (fun g => h ⟨g.2.1, g.1⟩)]
theorem unionO_same {a g : List Tri3} (ha : graphOk a = true) (hg : graphOk g = true) (h : ∀ t, t ∈ a → t ∈ g) : unionO g a = some g := by
  have e : unionT g a = g := eq_of_rising (unionT_rising (graphOk_rising hg)) (graphOk_rising hg) (fun t => by
    rw [unionT_mem]
    exact ⟨fun c => c.elim id (h t), .inl⟩)
  unfold unionO
  rw [e, if_pos ⟨hg, ha, graphOk_len hg⟩]
end Go.Proofs.Ytofkploffcplhaa
/- Patches: plain facts on lists of triples. -/
namespace Go.Proofs.Ytofkploffcplhaa
/-- What of a is not in b. -/
def outT (a b : List Tri3) : List Tri3 := a.filter fun t => decide (¬ t ∈ b)
/-- Whether one of b is in a. -/
def anyT (a b : List Tri3) : Bool := b.any fun t => decide (t ∈ a)
/-- Whether all of b are in a. -/
def subT (a b : List Tri3) : Bool := b.all fun t => decide (t ∈ a)
theorem outT_mem {a b : List Tri3} {t : Tri3} : t ∈ outT a b ↔ t ∈ a ∧ ¬ t ∈ b := by
  unfold outT; rw [List.mem_filter, decide_eq_true_eq]
theorem outT_len (a b : List Tri3) : (outT a b).length ≤ a.length := List.length_filter_le _ _
theorem outT_snoc (a b : List Tri3) (t : Tri3) : outT (a ++ [t]) b = if t ∈ b then outT a b else outT a b ++ [t] := by
  unfold outT
  rw [List.filter_append]
  by_cases h : t ∈ b <;> simp [h]
theorem outT_rising {a b : List Tri3} (h : Rising a) : Rising (outT a b) := List.Pairwise.filter _ h
theorem outT_ok {a b : List Tri3} (h : graphOk a = true) : graphOk (outT a b) = true :=
  graphOk_iff.2 ⟨Nat.le_trans (outT_len a b) (graphOk_len h), fun t ht => graphOk_okT h t (outT_mem.1 ht).1, outT_rising (graphOk_rising h)⟩
theorem outT_same {a b c : List Tri3} (h : ∀ t, t ∈ b ↔ t ∈ c) : outT a b = outT a c := by
  unfold outT
  refine List.filter_congr fun t _ => ?_
  rw [decide_eq_decide, h]
theorem anyT_iff {a b : List Tri3} : anyT a b = true ↔ ∃ t, t ∈ a ∧ t ∈ b := by
  unfold anyT
  rw [List.any_eq_true]
  exact ⟨fun ⟨t, h1, h2⟩ => ⟨t, of_decide_eq_true h2, h1⟩, fun ⟨t, h1, h2⟩ => ⟨t, h2, decide_eq_true h1⟩⟩
theorem anyT_no {a b : List Tri3} : anyT a b = false ↔ ∀ t, t ∈ a → ¬ t ∈ b := by
  rw [← Bool.not_eq_true, anyT_iff]
  exact ⟨fun h t h1 h2 => h ⟨t, h1, h2⟩, fun h ⟨t, h1, h2⟩ => h t h1 h2⟩
theorem anyT_comm (a b : List Tri3) : anyT a b = anyT b a := by
  rw [Bool.eq_iff_iff, anyT_iff, anyT_iff]
  exact ⟨fun ⟨t, h1, h2⟩ => ⟨t, h2, h1⟩, fun ⟨t, h1, h2⟩ => ⟨t, h2, h1⟩⟩
theorem anyT_same {a b c : List Tri3} (h : ∀ t, t ∈ b ↔ t ∈ c) : anyT b a = anyT c a := by
  rw [Bool.eq_iff_iff, anyT_iff, anyT_iff]
  exact ⟨fun ⟨t, h1, h2⟩ => ⟨t, (h t).1 h1, h2⟩, fun ⟨t, h1, h2⟩ => ⟨t, (h t).2 h1, h2⟩⟩
theorem anyT_snoc (a b : List Tri3) (t : Tri3) : anyT a (b ++ [t]) = (anyT a b || decide (t ∈ a)) := by
  unfold anyT; simp
theorem subT_iff {a b : List Tri3} : subT a b = true ↔ ∀ t, t ∈ b → t ∈ a := by
  unfold subT
  rw [List.all_eq_true]
  exact ⟨fun h t ht => of_decide_eq_true (h t ht), fun h t ht => decide_eq_true (h t ht)⟩
theorem subT_same {a b c : List Tri3} (h : ∀ t, t ∈ b ↔ t ∈ c) : subT b a = subT c a := by
  rw [Bool.eq_iff_iff, subT_iff, subT_iff]
  exact ⟨fun g t ht => (h t).1 (g t ht), fun g t ht => (h t).2 (g t ht)⟩
def patchOk (d a : List Tri3) : Bool := graphOk d && (graphOk a && !anyT d a)
theorem patchOk_iff {d a : List Tri3} : patchOk d a = true ↔ graphOk d = true ∧ graphOk a = true ∧ anyT d a = false := by
  unfold patchOk; simp
def patchOf (a b : List Tri3) : Option (List Tri3 × List Tri3) := if graphOk a = true ∧ graphOk b = true then some (outT a b, outT b a) else none
def patchedO (g d a : List Tri3) : Option (List Tri3) := if graphOk g = true ∧ patchOk d a = true ∧ subT g d = true ∧ anyT g a = false then unionO (outT g d) a else none
def chainable (pd pa qd qa : List Tri3) : Prop := patchOk pd pa = true ∧ patchOk qd qa = true ∧ anyT pd qd = false ∧ anyT pa qa = false
instance (pd pa qd qa : List Tri3) : Decidable (chainable pd pa qd qa) := by unfold chainable; exact inferInstance
def chDrop (pd pa qd qa : List Tri3) : List Tri3 := unionT (outT pd qa) (outT qd pa)
def chAdd (pd pa qd qa : List Tri3) : List Tri3 := unionT (outT pa qd) (outT qa pd)
def chainedO (pd pa qd qa : List Tri3) : Option (List Tri3 × List Tri3) :=
  if chainable pd pa qd qa ∧ (chDrop pd pa qd qa).length ≤ 80 ∧ (chAdd pd pa qd qa).length ≤ 80 then some (chDrop pd pa qd qa, chAdd pd pa qd qa) else none
theorem unionO_out {g d a : List Tri3} (hg : graphOk g = true) (ha : graphOk a = true) : unionO (outT g d) a = if (unionT (outT g d) a).length ≤ 80 then some (unionT (outT g d) a) else none := by
  unfold unionO
  by_cases h : (unionT (outT g d) a).length ≤ 80
  · rw [if_pos ⟨outT_ok hg, ha, h⟩, if_pos h]
  · rw [if_neg (fun c => h c.2.2), if_neg h]
theorem unionO_outs {a b c d : List Tri3} (ha : graphOk a = true) (hc : graphOk c = true) : unionO (outT a b) (outT c d) = if (unionT (outT a b) (outT c d)).length ≤ 80 then some (unionT (outT a b) (outT c d)) else none :=
  unionO_out ha (outT_ok hc)
/-- What comes of two patches has nothing together. -/
theorem chain_parts {pd pa qd qa : List Tri3} (h : chainable pd pa qd qa) : anyT (chDrop pd pa qd qa) (chAdd pd pa qd qa) = false := by
  obtain ⟨h1, h2, h3, h4⟩ := h
  have p := anyT_no.1 (patchOk_iff.1 h1).2.2
  have q := anyT_no.1 (patchOk_iff.1 h2).2.2
  refine anyT_no.2 fun t h5 h6 => ?_
  unfold chDrop at h5
  unfold chAdd at h6
  rw [unionT_mem, outT_mem, outT_mem] at h5 h6
  rcases h5 with ⟨a1, a2⟩ | ⟨a1, a2⟩ <;> rcases h6 with ⟨b1, b2⟩ | ⟨b1, b2⟩
  · exact p t a1 b1
  · exact a2 b1
  · exact a2 b1
  · exact q t a1 b1
theorem chain_ok {pd pa qd qa : List Tri3} (h : chainable pd pa qd qa) : patchOk (chDrop pd pa qd qa) (chAdd pd pa qd qa) = (decide ((chDrop pd pa qd qa).length ≤ 80) && decide ((chAdd pd pa qd qa).length ≤ 80)) := by
  have hp := chain_parts h
  obtain ⟨h1, h2, _, _⟩ := h
  obtain ⟨p1, p2, _⟩ := patchOk_iff.1 h1
  obtain ⟨q1, q2, _⟩ := patchOk_iff.1 h2
  have gd : graphOk (chDrop pd pa qd qa) = decide ((chDrop pd pa qd qa).length ≤ 80) := by
    by_cases g : (chDrop pd pa qd qa).length ≤ 80
    · rw [decide_eq_true g]; exact unionT_graphOk (outT_ok p1) (outT_ok q1) g
    · rw [decide_eq_false g, ← Bool.not_eq_true]; exact fun c => g (graphOk_len c)
  have ga : graphOk (chAdd pd pa qd qa) = decide ((chAdd pd pa qd qa).length ≤ 80) := by
    by_cases g : (chAdd pd pa qd qa).length ≤ 80
    · rw [decide_eq_true g]; exact unionT_graphOk (outT_ok p2) (outT_ok q2) g
    · rw [decide_eq_false g, ← Bool.not_eq_true]; exact fun c => g (graphOk_len c)
  unfold patchOk
  rw [gd, ga, hp]
  simp
theorem patchedO_some {g d a h : List Tri3} (e : patchedO g d a = some h) : graphOk g = true ∧ patchOk d a = true ∧ (∀ t, t ∈ d → t ∈ g) ∧ (∀ t, t ∈ g → ¬ t ∈ a) ∧ h = unionT (outT g d) a ∧ graphOk h = true := by
  unfold patchedO at e
  split at e
  · rename_i c
    obtain ⟨_, _, e2, e3⟩ := unionO_some e
    exact ⟨c.1, c.2.1, subT_iff.1 c.2.2.1, anyT_no.1 c.2.2.2, e2, e3⟩
  · cases e
theorem patched_mem {g d a h : List Tri3} (e : patchedO g d a = some h) (t : Tri3) : t ∈ h ↔ (t ∈ g ∧ ¬ t ∈ d) ∨ t ∈ a := by
  obtain ⟨_, _, _, _, rfl, _⟩ := patchedO_some e
  rw [unionT_mem, outT_mem]
theorem patched_is {g d a h : List Tri3} (hg : graphOk g = true) (hp : patchOk d a = true) (h1 : ∀ t, t ∈ d → t ∈ g) (h2 : ∀ t, t ∈ g → ¬ t ∈ a) (hh : graphOk h = true) (hm : ∀ t, t ∈ h ↔ (t ∈ g ∧ ¬ t ∈ d) ∨ t ∈ a) : patchedO g d a = some h := by
  obtain ⟨_, pa, _⟩ := patchOk_iff.1 hp
  have e : unionT (outT g d) a = h := eq_of_rising (unionT_rising (outT_rising (graphOk_rising hg))) (graphOk_rising hh) (fun t => by rw [unionT_mem, outT_mem, hm])
  unfold patchedO
  rw [if_pos ⟨hg, hp, subT_iff.2 h1, anyT_no.2 h2⟩, unionO_out hg pa, e, if_pos (graphOk_len hh)]
/-- What turns one graph into another one. -/
theorem patch_turns {a b : List Tri3} (ha : graphOk a = true) (hb : graphOk b = true) : patchOk (outT a b) (outT b a) = true ∧ patchedO a (outT a b) (outT b a) = some b ∧ patchedO b (outT b a) (outT a b) = some a ∧ outT a a = [] := by
  have key : ∀ a b : List Tri3, graphOk a = true → graphOk b = true → patchOk (outT a b) (outT b a) = true ∧ patchedO a (outT a b) (outT b a) = some b := by
    intro a b ha hb
    have hp : patchOk (outT a b) (outT b a) = true := patchOk_iff.2 ⟨outT_ok ha, outT_ok hb, anyT_no.2 fun t h1 h2 => (outT_mem.1 h1).2 (outT_mem.1 h2).1⟩
    refine ⟨hp, patched_is ha hp (fun t h => (outT_mem.1 h).1) (fun t h1 h2 => (outT_mem.1 h2).2 h1) hb fun t => ?_⟩
    rw [outT_mem, outT_mem]
    by_cases h1 : t ∈ a <;> by_cases h2 : t ∈ b <;> simp [h1, h2]
  refine ⟨(key a b ha hb).1, (key a b ha hb).2, (key b a hb ha).2, ?_⟩
  unfold outT
  rw [List.filter_eq_nil_iff]
  intro t ht
  simp [ht]
theorem patched_len {g d a h : List Tri3} (e : patchedO g d a = some h) : h.length + d.length = g.length + a.length := by
  obtain ⟨h1, h2, h3, h4, rfl, h5⟩ := patchedO_some e
  obtain ⟨p1, p2, p3⟩ := patchOk_iff.1 h2
  have n1 : (outT g d ++ a).Nodup := List.nodup_append.2 ⟨(outT_rising (graphOk_rising h1)).nodup, (graphOk_rising p2).nodup, fun x hx y hy => by rintro rfl; exact h4 x (outT_mem.1 hx).1 hy⟩
  have q1 : (unionT (outT g d) a).Perm (outT g d ++ a) := (List.perm_ext_iff_of_nodup (graphOk_rising h5).nodup n1).2 fun t => by rw [unionT_mem, List.mem_append]
  have n2 : (outT g d ++ d).Nodup := List.nodup_append.2 ⟨(outT_rising (graphOk_rising h1)).nodup, (graphOk_rising p1).nodup, fun x hx y hy => by rintro rfl; exact (outT_mem.1 hx).2 hy⟩
  have q2 : (outT g d ++ d).Perm g := (List.perm_ext_iff_of_nodup n2 (graphOk_rising h1).nodup).2 fun t => by
    rw [List.mem_append, outT_mem]
    by_cases c : t ∈ d
    · simp [c, h3 t c]
    · simp [c]
  have l1 := q1.length_eq
  have l2 := q2.length_eq
  rw [List.length_append] at l1 l2
  omega
/-- Two patches one behind the other are one that does what both do. -/
theorem chain_does {g pd pa qd qa x y : List Tri3} (hc : chainable pd pa qd qa) (h1 : (chDrop pd pa qd qa).length ≤ 80) (h2 : (chAdd pd pa qd qa).length ≤ 80) (hx : patchedO g pd pa = some x) (hy : patchedO x qd qa = some y) :
    patchedO g (chDrop pd pa qd qa) (chAdd pd pa qd qa) = some y := by
  have hok : patchOk (chDrop pd pa qd qa) (chAdd pd pa qd qa) = true := by rw [chain_ok hc, decide_eq_true h1, decide_eq_true h2]; rfl
  obtain ⟨c1, _, c3, _⟩ := hc
  have p := anyT_no.1 (patchOk_iff.1 c1).2.2
  have c3 := anyT_no.1 c3
  obtain ⟨x1, _, x3, x4, _, _⟩ := patchedO_some hx
  obtain ⟨_, _, y3, y4, _, y6⟩ := patchedO_some hy
  have mx := patched_mem hx
  have my := patched_mem hy
  have md : ∀ t, t ∈ chDrop pd pa qd qa ↔ (t ∈ pd ∧ ¬ t ∈ qa) ∨ (t ∈ qd ∧ ¬ t ∈ pa) := fun t => by unfold chDrop; rw [unionT_mem, outT_mem, outT_mem]
  have ma : ∀ t, t ∈ chAdd pd pa qd qa ↔ (t ∈ pa ∧ ¬ t ∈ qd) ∨ (t ∈ qa ∧ ¬ t ∈ pd) := fun t => by unfold chAdd; rw [unionT_mem, outT_mem, outT_mem]
  refine patched_is x1 hok (fun t ht => ?_) (fun t ht hta => ?_) y6 fun t => ?_
  · rcases (md t).1 ht with ⟨a1, _⟩ | ⟨a1, a2⟩
    · exact x3 t a1
    · rcases (mx t).1 (y3 t a1) with ⟨b, _⟩ | b
      · exact b
      · exact absurd b a2
  · rcases (ma t).1 hta with ⟨a1, _⟩ | ⟨a1, a2⟩
    · exact x4 t ht a1
    · exact y4 t ((mx t).2 (.inl ⟨ht, a2⟩)) a1
  · have p := p t
    have c3 := c3 t
    have x3 := x3 t
    have x4 := x4 t
    rw [my, mx, md, ma]
    clear my mx md ma
    generalize (t ∈ g) = G at *
    generalize (t ∈ pd) = PD at *
    generalize (t ∈ pa) = PA at *
    generalize (t ∈ qd) = QD at *
    generalize (t ∈ qa) = QA at *
    clear hy hx hok
    grind
end Go.Proofs.Ytofkploffcplhaa
