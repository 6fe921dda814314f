/- Whether a rule is right: the program's and the specification's. -/
import Derived.Test.YtapcbhpkbdlinabVarsP
import Derived.Deep.RegionHeld3
namespace Go.Proofs.Ytapcbhpkbdlinab
open Go.RowKit Go.WideShapes
/-- Block g holds just these four cells. -/
def Box4 (w : World) (g : Nat) (x y z u : Value) (T : TypeId) : Prop := w.heap[g]? = some (.cells #[x, y, z, u] T (0, 0))
theorem Box4.lt {w : World} {g : Nat} {x y z u : Value} {T : TypeId} (h : Box4 w g x y z u T) : g < w.heap.size := by
  unfold Box4 at h; exact (Array.getElem?_eq_some_iff.1 h).1
theorem Box4.new (w : World) (x y z u : Value) (T : TypeId) : Box4 (w.alloc (.cells #[x, y, z, u] T)) w.heap.size x y z u T := heap_alloc_new w _
theorem Box4.next {w w' : World} {g : Nat} {x y z u : Value} {T : TypeId} (h : Box4 w g x y z u T) (hb : Below w.heap.size w w') : Box4 w' g x y z u T := (hb.block g h.lt).trans h
theorem Box4.alloc {w : World} {g : Nat} {x y z u : Value} {T : TypeId} (h : Box4 w g x y z u T) (o : Obj) : Box4 (w.alloc o) g x y z u T := (Below.heap_alloc w o g h.lt).trans h
theorem Box4.drew {w : World} {g : Nat} {x y z u : Value} {T : TypeId} (h : Box4 w g x y z u T) : Box4 w.drew g x y z u T := h
theorem Box4.far {w : World} {g : Nat} {x y z u : Value} {T : TypeId} (h : Box4 w g x y z u T) {a : Addr} (ha : g ≠ a.block) (v : Value) : Box4 (w.setCell a v) g x y z u T := (Below.heap_setCell w a v g ha).trans h
theorem Box4.cells {w : World} {g : Nat} {x y z u : Value} {T : TypeId} (h : Box4 w g x y z u T) : w.cell? ⟨g, 0, none⟩ = some x ∧ w.cell? ⟨g, 1, none⟩ = some y ∧ w.cell? ⟨g, 2, none⟩ = some z ∧ w.cell? ⟨g, 3, none⟩ = some u := by
  unfold Box4 at h; refine ⟨?_, ?_, ?_, ?_⟩ <;> simp [World.cell?, h]
theorem Box4.free {w : World} {g : Nat} {x y z u : Value} {T : TypeId} (h : Box4 w g x y z u T) : w.frozen? ⟨g, 0, none⟩ = false ∧ w.frozen? ⟨g, 1, none⟩ = false ∧ w.frozen? ⟨g, 2, none⟩ = false ∧ w.frozen? ⟨g, 3, none⟩ = false := by
  unfold Box4 at h; refine ⟨?_, ?_, ?_, ?_⟩ <;> simp [World.frozen?, h]
theorem Box4.set {w : World} {g : Nat} {x y z u : Value} {T : TypeId} (h : Box4 w g x y z u T) (v : Value) :
    Box4 (w.setCell ⟨g, 0, none⟩ v) g v y z u T ∧ Box4 (w.setCell ⟨g, 1, none⟩ v) g x v z u T ∧ Box4 (w.setCell ⟨g, 2, none⟩ v) g x y v u T ∧ Box4 (w.setCell ⟨g, 3, none⟩ v) g x y z v T := by
  unfold Box4 at h ⊢; refine ⟨?_, ?_, ?_, ?_⟩ <;> simp [World.setCell, Array.getElem?_modify, h]
theorem ownS_isN {B : Nat} {w : World} {v : Value} {ts : List ByteArray} {n : Nat} (h : OwnS B w v ts) (l : ts.length = n) : ∃ a c, v = .slice a n c ∧ IsStrs w a n c ts := by
  subst l; exact h.is
def hasB (ts : List ByteArray) (x : ByteArray) : Bool := ts.any fun y => y.toList == x.toList
theorem hasB_yes {ts : List ByteArray} {x u : ByteArray} {k : Nat} (h : ts[k]? = some u) (he : (u.toList == x.toList) = true) : hasB ts x = true := List.any_eq_true.2 ⟨u, List.mem_of_getElem? h, he⟩
theorem hasB_no {ts : List ByteArray} {x : ByteArray} (h : ∀ (i : Nat) (u : ByteArray), i < ts.length → ts[i]? = some u → (u.toList == x.toList) = false) : hasB ts x = false := by
  unfold hasB
  rw [List.any_eq_false]
  intro u hu
  obtain ⟨i, hi⟩ := List.mem_iff_getElem?.1 hu
  rw [h i u (List.getElem?_eq_some_iff.1 hi).1 hi]; simp
set_option maxRecDepth 100000 in
theorem specHas (a : Option Addr) (n c : Nat) (ts : List ByteArray) (x : ByteArray) (w : World) (h : IsStrs w a n c ts) (hn : n ≤ 1048576) :
    Calls Try.prog 54 #[.slice a n c, .string x] w fun e w' => e = .returned (.bool (hasB ts x)) ∧ w' = w := by
  have H := Lib.hid h
  have HL := Lib.hid h.len
  clear h
  go_enter Try.func54, Try.ntmps54
  go_wp2_with fail
  go_loop [5] (fun i => ∃ k : Nat, k ≤ n ∧ i = .int .i64 k ∧ Hid (∀ (i : Nat) (u : ByteArray), i < k → ts[i]? = some u → (u.toList == x.toList) = false)) (fun i => n - (intOf i).toNat)
  case atStart => exact ⟨0, Nat.zero_le _, rfl, Lib.hid (fun i u hi => by omega)⟩
  case round =>
    obtain ⟨k, hk, rfl, hno⟩ := hrel
    by_cases hlt : k < n
    · obtain ⟨b, off, rfl, hb, _, _, hts, hcs⟩ := H.out.cells (by omega)
      have hu : ts[k]? = some (ts[k]'(by omega)) := List.getElem?_eq_getElem (by omega)
      have hc := hcs k _ hu
      generalize ts[k]'(by omega) = u at hu hc
      have hk6 : (0 : Int) ≤ (k : Int) := by omega
      have hk7 : (k : Int) < (n : Int) := by omega
      have HU := Lib.hid hu
      clear hts hcs hu
      cases he : (u.toList == x.toList)
      · have HN : Hid (∀ (i : Nat) (u : ByteArray), i < k + 1 → ts[i]? = some u → (u.toList == x.toList) = false) := Lib.hid (fun i v hi hv => by
          rcases Nat.lt_or_ge i k with g | g
          · exact hno.out i v g hv
          · obtain rfl : i = k := by omega
            rw [HU.out] at hv; obtain rfl := Option.some.inj hv; exact he)
        clear hno HU
        go_wp2_with fail
        go_round
        case rel => exact ⟨k + 1, by omega, by go_num, HN⟩
        case measure => simp [intOf]; omega
      · have HR : Hid (hasB ts x = true) := Lib.hid (hasB_yes HU.out he)
        clear hno HU
        go_wp2_with fail
        go_ret
        exact ⟨by rw [HR.out]; rfl, rfl⟩
    · have HR : Hid (hasB ts x = false) := Lib.hid (hasB_no (fun i u hi hu => hno.out i u (by have := HL.out; omega) hu))
      clear hno
      go_wp2_with fail
      go_ret
      exact ⟨by rw [HR.out]; rfl, rfl⟩
set_option maxRecDepth 100000 in
theorem implIndexS (a : Option Addr) (n c : Nat) (ts : List ByteArray) (x : ByteArray) (w : World) (h : IsStrs w a n c ts) (hn : n ≤ 1048576) :
    Calls Try.prog 95 #[.slice a n c, .string x] w fun e w' => (∃ i : Int, e = .returned (.int .i64 i) ∧ decide (0 ≤ i) = hasB ts x) ∧ w' = w := by
  have H := Lib.hid h
  have HL := Lib.hid h.len
  clear h
  go_enter Try.func95, Try.ntmps95
  go_wp2_with fail
  go_loop [8] (fun i => ∃ k : Nat, k ≤ n ∧ i = .int .i64 k ∧ Hid (∀ (i : Nat) (u : ByteArray), i < k → ts[i]? = some u → (u.toList == x.toList) = false)) (fun i => n - (intOf i).toNat)
  case atStart => exact ⟨0, Nat.zero_le _, rfl, Lib.hid (fun i u hi => by omega)⟩
  case round =>
    obtain ⟨k, hk, rfl, hno⟩ := hrel
    by_cases hlt : k < n
    · obtain ⟨b, off, rfl, hb, _, _, hts, hcs⟩ := H.out.cells (by omega)
      have hu : ts[k]? = some (ts[k]'(by omega)) := List.getElem?_eq_getElem (by omega)
      have hc := hcs k _ hu
      generalize ts[k]'(by omega) = u at hu hc
      have hk6 : (0 : Int) ≤ (k : Int) := by omega
      have hk7 : (k : Int) < (n : Int) := by omega
      have HU := Lib.hid hu
      clear hts hcs hu
      cases he : (u.toList == x.toList)
      · have HN : Hid (∀ (i : Nat) (u : ByteArray), i < k + 1 → ts[i]? = some u → (u.toList == x.toList) = false) := Lib.hid (fun i v hi hv => by
          rcases Nat.lt_or_ge i k with g | g
          · exact hno.out i v g hv
          · obtain rfl : i = k := by omega
            rw [HU.out] at hv; obtain rfl := Option.some.inj hv; exact he)
        have he2 : (x.toList == u.toList) = false := by rw [beq_eq_false_iff_ne] at he ⊢; exact fun e => he e.symm
        clear hno HU he
        go_wp2_with fail
        go_round
        case rel => exact ⟨k + 1, by omega, by go_num, HN⟩
        case measure => simp [intOf]; omega
      · have HR : Hid (decide ((0 : Int) ≤ (k : Int)) = hasB ts x) := Lib.hid (by rw [hasB_yes HU.out he]; exact decide_eq_true hk6)
        have he2 : (x.toList == u.toList) = true := by rw [beq_iff_eq] at he ⊢; exact he.symm
        clear hno HU he
        go_wp2_with fail
        go_ret
        exact ⟨⟨k, rfl, HR.out⟩, rfl⟩
    · have HR : Hid (decide ((0 : Int) ≤ -1) = hasB ts x) := Lib.hid (by rw [hasB_no (fun i u hi hu => hno.out i u (by have := HL.out; omega) hu)]; rfl)
      clear hno
      go_wp2_with fail
      go_ret
      exact ⟨⟨-1, rfl, HR.out⟩, rfl⟩
theorem implContains (a : Option Addr) (n c : Nat) (ts : List ByteArray) (x : ByteArray) (w : World) (h : IsStrs w a n c ts) (hn : n ≤ 1048576) :
    Calls Try.prog 71 #[.slice a n c, .string x] w fun e w' => e = .returned (.bool (hasB ts x)) ∧ w' = w := by
  have C := Lib.hid (implIndexS a n c ts x w h hn)
  clear h
  generalize hasB ts x = q at C ⊢
  go_enter Try.func71, Try.ntmps71
  go_wp2_with fail
  refine C.out.mono ?_
  rintro e w1 ⟨⟨i, rfl, hi⟩, rfl⟩
  subst hi
  go_wp2_with fail
  go_ret
  exact ⟨rfl, rfl⟩
def headIn (L H : List Txt) : Bool := H.all fun v => hasB (L.map bs) (bs v)
def ruleOk (ts : List Tri3) (h : Tri3) : Bool := !ts.isEmpty && (bgpOk ts && (patT h && headIn (allVars ts) (allVars [h])))
theorem headIn_no {L H : List Txt} {k : Nat} {v : Txt} (h : H[k]? = some v) (hv : hasB (L.map bs) (bs v) = false) : headIn L H = false := by
  unfold headIn; rw [List.all_eq_false]; exact ⟨v, List.mem_of_getElem? h, by rw [hv]; simp⟩
theorem headIn_yes {L H : List Txt} (h : ∀ (i : Nat) (v : Txt), i < H.length → H[i]? = some v → hasB (L.map bs) (bs v) = true) : headIn L H = true := by
  unfold headIn; rw [List.all_eq_true]; intro v hv
  obtain ⟨i, hi⟩ := List.mem_iff_getElem?.1 hv
  exact h i v (List.getElem?_eq_some_iff.1 hi).1 hi
theorem bgp_one {h : Tri3} (hp : patT h = true) : bgpOk [h] = true := by unfold bgpOk; simp [hp]
theorem allVars_len (ts : List Tri3) : (allVars ts).length ≤ 3 * ts.length := by
  have h1 := putAllS_len (varWords ts) []
  have h2 := varWords_len ts
  simp only [List.length_nil] at h1
  unfold allVars; omega
theorem tris_one (w : World) (s p o : ByteArray) (hs : s.size ≤ maxLen) (hp : p.size ≤ maxLen) (ho : o.size ≤ maxLen) : IsTris (w.alloc (.cells #[.string s, .string p, .string o] 30)) (some ⟨w.heap.size, 0, none⟩) 1 1 [(s, p, o)] := by
  refine .inr ⟨_, rfl, Nat.le_refl _, by unfold maxLen; omega, rfl, fun i t hi => ?_⟩
  obtain rfl : i = 0 := by have := (List.getElem?_eq_some_iff.1 hi).1; simp at this; omega
  obtain rfl : (s, p, o) = t := by simpa using hi
  obtain ⟨c0, c1, c2⟩ := (Box.new w (.string s) (.string p) (.string o) 30).cells
  refine ⟨?_, ?_, ?_, hs, hp, ho⟩
  · rw [add_plain]; exact c0
  · rw [add_plain]; exact c1
  · rw [add_plain]; exact c2
set_option maxRecDepth 100000 in
set_option maxHeartbeats 3200000 in
theorem implRuleOk (a : Option Addr) (n c : Nat) (ts : List Tri3) (s p o : ByteArray) (w : World) (h : IsTris w a n c ts) (hsm : Sm ts) (hn : n ≤ 1048576) (hs : s.size ≤ 2097152) (hp : p.size ≤ 2097152) (ho : o.size ≤ 2097152) :
    Calls Try.prog 36 #[.agg #[.slice a n c, .string s, .string p, .string o]] w fun e w' => e = .returned (.bool (ruleOk ts (s, p, o))) ∧ Below w.heap.size w w' := by
  have B0 := (Below.refl w.heap.size w).alloc (Nat.le_refl _) (.cells #[.slice a n c, .string s, .string p, .string o] 32)
  have X0 := Box4.new w (.slice a n c) (.string s) (.string p) (.string o) 32
  have H := Lib.hid h
  have HL := Lib.hid h.len
  have HM := Lib.hid hsm
  obtain ⟨x0, x1, x2, x3⟩ := X0.cells
  clear h hsm
  by_cases hz : n = 0
  · have HR : Hid (ruleOk ts (s, p, o) = false) := Lib.hid (by unfold ruleOk; rw [List.length_eq_zero_iff.1 (HL.out.trans hz)]; rfl)
    subst hz
    go_enter Try.func36, Try.ntmps36
    go_wp2_with fail
    go_ret
    exact ⟨by rw [HR.out]; rfl, B0⟩
  have hz0 : ((n : Int) == 0) = false := by rw [beq_eq_false_iff_ne]; omega
  have hne : ts.isEmpty = false := by
    cases ts with
    | nil => exact absurd HL.out.symm hz
    | cons _ _ => rfl
  have CB' := implBgpOk a n c ts _ (H.out.next B0) HM.out
  cases hb : bgpOk ts
  · have HR : Hid (ruleOk ts (s, p, o) = false) := Lib.hid (by unfold ruleOk; rw [hb, hne]; rfl)
    rw [hb] at CB'
    have CB := Lib.hid CB'
    clear CB' hb hne
    go_enter Try.func36, Try.ntmps36
    go_wp2_with fail
    refine CB.out.mono ?_
    rintro e w1 ⟨rfl, hb1⟩
    go_wp2_with fail
    go_ret
    exact ⟨by rw [HR.out]; rfl, B0.trans (hb1.mono B0.size)⟩
  rw [hb] at CB'
  have CB := Lib.hid CB'
  have CP' := implPatternOk s p o hs hp ho
  change ∀ w, Calls _ _ _ w fun e w' => e = .returned (.bool (patT (s, p, o))) ∧ Below w.heap.size w w' at CP'
  cases hq : patT (s, p, o)
  · have HR : Hid (ruleOk ts (s, p, o) = false) := Lib.hid (by unfold ruleOk; rw [hb, hne, hq]; rfl)
    rw [hq] at CP'
    have CP := Lib.hid CP'
    clear CB' CP' hb hne hq
    go_enter Try.func36, Try.ntmps36
    go_wp2_with fail
    refine CB.out.mono ?_
    rintro e w1 ⟨rfl, hb1⟩
    have B1 := B0.trans (hb1.mono B0.size)
    have X1 := X0.next hb1
    clear hb1 B0 X0 x0 x1 x2 x3
    obtain ⟨x0, x1, x2, x3⟩ := X1.cells
    go_wp2_with fail
    refine (CP.out _).mono ?_
    rintro e w2 ⟨rfl, hb2⟩
    go_wp2_with fail
    go_ret
    exact ⟨by rw [HR.out]; rfl, B1.trans (hb2.mono B1.size)⟩
  rw [hq] at CP'
  have CP := Lib.hid CP'
  have HST : Hid (ruleOk ts (s, p, o) = headIn (allVars ts) (allVars [(s, p, o)])) := Lib.hid (by unfold ruleOk; rw [hb, hne, hq]; rfl)
  have hl4 : ts.length ≤ 4 := by have hq' := hb; unfold bgpOk at hq'; simp only [Bool.and_eq_true, decide_eq_true_eq] at hq'; exact hq'.1
  have V1' := fun W hi => implVarsOf a n c ts W hi HM.out
  have hSm1 : Sm [(s, p, o)] := by
    intro t ht
    obtain rfl : t = (s, p, o) := by simpa using ht
    exact ⟨hs, hp, ho⟩
  have V2' := fun b W hi => implVarsOf (some ⟨b, 0, none⟩) 1 1 [(s, p, o)] W hi hSm1
  rw [varsT_is hb] at V1'
  rw [varsT_is (bgp_one hq)] at V2'
  have hA1 := allVars_len ts
  have hA2 := allVars_len [(s, p, o)]
  generalize allVars ts = L at V1' HST hA1
  generalize allVars [(s, p, o)] = HH at V2' HST hA2
  simp only [List.length_cons, List.length_nil] at hA2
  obtain ⟨m, hm⟩ : ∃ m, HH.length = m := ⟨_, rfl⟩
  rw [hm] at hA2
  have HLM := Lib.hid hm
  obtain ⟨l, hl⟩ : ∃ l, L.length = l := ⟨_, rfl⟩
  rw [hl] at hA1
  have HLL := Lib.hid hl
  have V1 := Lib.hid V1'
  have V2 := Lib.hid V2'
  clear CB' CP' hb hne hq V1' V2' hm hl
  go_enter Try.func36, Try.ntmps36
  go_wp2_with fail
  refine CB.out.mono ?_
  rintro e w1 ⟨rfl, hb1⟩
  have B1 := B0.trans (hb1.mono B0.size)
  have X1 := X0.next hb1
  clear hb1 B0 X0 x0 x1 x2 x3
  obtain ⟨x0, x1, x2, x3⟩ := X1.cells
  go_wp2_with fail
  refine (CP.out _).mono ?_
  rintro e w2 ⟨rfl, hb2⟩
  have B2 := B1.trans (hb2.mono B1.size)
  have X2 := X1.next hb2
  clear hb2 B1 X1 x0 x1 x2 x3
  obtain ⟨x0, x1, x2, x3⟩ := X2.cells
  go_wp2_with fail
  refine (V1.out _ (H.out.next B2)).mono ?_
  rintro e w3 ⟨v, rfl, o3, hb3⟩
  obtain ⟨va, vc, rfl, i3⟩ := ownS_isN o3 (by rw [List.length_map, HLL.out])
  have B3 := B2.trans (hb3.mono B2.size)
  have X3 := X2.next hb3
  have BA := (Below.refl w3.heap.size w3).alloc (Nat.le_refl _) (.cells #[.string s, .string p, .string o] 30)
  have I3 := Lib.hid (i3.next BA)
  have B4 := B3.trans (BA.mono B3.size)
  have T3 := Lib.hid (tris_one w3 s p o (by unfold maxLen; omega) (by unfold maxLen; omega) (by unfold maxLen; omega))
  clear hb3 B2 X2 x0 x1 x2 x3 o3 i3 BA B3
  obtain ⟨x0, x1, x2, x3⟩ := X3.cells
  go_wp2_with fail
  refine (V2.out _ _ T3.out).mono ?_
  rintro e w5 ⟨v, rfl, o5, hb5⟩
  obtain ⟨ua, uc, rfl, i5⟩ := ownS_isN o5 (by rw [List.length_map, HLM.out])
  have B5 := B4.trans (hb5.mono B4.size)
  have I5 := Lib.hid (And.intro (I3.out.next hb5) i5)
  clear hb5 o5 i5 I3 T3 B4 x0 x1 x2 x3 X3
  go_wp2_with fail
  go_loop [30] (fun i => ∃ k : Nat, k ≤ m ∧ i = .int .i64 k ∧ Hid (∀ (i : Nat) (v : Txt), i < k → HH[i]? = some v → hasB (L.map bs) (bs v) = true)) (fun i => m - (intOf i).toNat)
  case atStart => exact ⟨0, Nat.zero_le _, rfl, Lib.hid (fun i v hi => by omega)⟩
  case round =>
    obtain ⟨k, hk, rfl, hno⟩ := hrel
    by_cases hlt : k < m
    · obtain ⟨b, off, rfl, hb, _, _, hts, hcs⟩ := I5.out.2.cells (by omega)
      have hv : HH[k]? = some (HH[k]'(by have := HLM.out; omega)) := List.getElem?_eq_getElem _
      have hc := hcs k (bs (HH[k]'(by have := HLM.out; omega))) (by rw [List.getElem?_map, hv]; rfl)
      generalize HH[k]'(by have := HLM.out; omega) = v at hv hc
      have hk6 : (0 : Int) ≤ (k : Int) := by omega
      have hk7 : (k : Int) < (m : Int) := by omega
      have HV := Lib.hid hv
      have CC' := implContains va l vc (L.map bs) (bs v) w5 I5.out.1 (by omega)
      obtain ⟨sb, hsb⟩ : ∃ sb, bs v = sb := ⟨_, rfl⟩
      rw [hsb] at hc CC'
      have HSB := Lib.hid hsb
      clear hts hcs hv hsb
      cases he : hasB (L.map bs) sb
      · have HR : Hid (ruleOk ts (s, p, o) = false) := Lib.hid (by rw [HST.out]; exact headIn_no HV.out (by rw [HSB.out]; exact he))
        rw [he] at CC'
        have CC := Lib.hid CC'
        clear CC' he hno
        go_wp2_with fail
        refine CC.out.mono ?_
        rintro e w6 ⟨rfl, rfl⟩
        go_wp2_with fail
        go_ret
        exact ⟨by rw [HR.out]; rfl, B5⟩
      · have HN : Hid (∀ (i : Nat) (v : Txt), i < k + 1 → HH[i]? = some v → hasB (L.map bs) (bs v) = true) := Lib.hid (fun i u hi hu => by
          rcases Nat.lt_or_ge i k with g | g
          · exact hno.out i u g hu
          · obtain rfl : i = k := by omega
            rw [HV.out] at hu; obtain rfl := Option.some.inj hu; rw [HSB.out]; exact he)
        rw [he] at CC'
        have CC := Lib.hid CC'
        clear CC' he hno
        go_wp2_with fail
        refine CC.out.mono ?_
        rintro e w6 ⟨rfl, rfl⟩
        go_wp2_with fail
        go_round
        case rel => exact ⟨k + 1, by omega, by go_num, HN⟩
        case measure => simp [intOf]; omega
    · have HR : Hid (ruleOk ts (s, p, o) = true) := Lib.hid (by rw [HST.out]; exact headIn_yes (fun i v hi hv => hno.out i v (by have := HLM.out; omega) hv))
      clear hno
      go_wp2_with fail
      go_ret
      exact ⟨by rw [HR.out]; rfl, B5⟩
set_option maxRecDepth 100000 in
set_option maxHeartbeats 3200000 in
theorem specRuleOk (a : Option Addr) (n c : Nat) (ts : List Tri3) (s p o : ByteArray) (w : World) (h : IsTris w a n c ts) (hsm : Sm ts) (hn : n ≤ 1048576) (hs : s.size ≤ 2097152) (hp : p.size ≤ 2097152) (ho : o.size ≤ 2097152) :
    Calls Try.prog 33 #[.agg #[.slice a n c, .string s, .string p, .string o]] w fun e w' => e = .returned (.bool (ruleOk ts (s, p, o))) ∧ Below w.heap.size w w' := by
  have B0 := (Below.refl w.heap.size w).alloc (Nat.le_refl _) (.cells #[.slice a n c, .string s, .string p, .string o] 32)
  have X0 := Box4.new w (.slice a n c) (.string s) (.string p) (.string o) 32
  have H := Lib.hid h
  have HL := Lib.hid h.len
  have HM := Lib.hid hsm
  obtain ⟨x0, x1, x2, x3⟩ := X0.cells
  clear h hsm
  have CB' := specBgpOk a n c ts _ (H.out.next B0) HM.out
  by_cases hz : n = 0
  · have hts0 := List.length_eq_zero_iff.1 (HL.out.trans hz)
    have HR : Hid (ruleOk ts (s, p, o) = false) := Lib.hid (by unfold ruleOk; rw [hts0]; rfl)
    have hb : bgpOk ts = true := by rw [hts0]; rfl
    rw [hb] at CB'
    have CB := Lib.hid CB'
    clear CB' hb hts0
    subst hz
    go_enter Try.func33, Try.ntmps33
    go_wp2_with fail
    refine CB.out.mono ?_
    rintro e w1 ⟨rfl, hb1⟩
    have X1 := X0.next hb1
    clear x0 x1 x2 x3
    obtain ⟨x0, x1, x2, x3⟩ := X1.cells
    go_wp2_with fail
    go_ret
    exact ⟨by rw [HR.out]; rfl, B0.trans (hb1.mono B0.size)⟩
  have hz0 : ((n : Int) == 0) = false := by rw [beq_eq_false_iff_ne]; omega
  have hne : ts.isEmpty = false := by
    cases ts with
    | nil => exact absurd HL.out.symm hz
    | cons _ _ => rfl
  cases hb : bgpOk ts
  · have HR : Hid (ruleOk ts (s, p, o) = false) := Lib.hid (by unfold ruleOk; rw [hb, hne]; rfl)
    rw [hb] at CB'
    have CB := Lib.hid CB'
    clear CB' hb hne
    go_enter Try.func33, Try.ntmps33
    go_wp2_with fail
    refine CB.out.mono ?_
    rintro e w1 ⟨rfl, hb1⟩
    go_wp2_with fail
    go_ret
    exact ⟨by rw [HR.out]; rfl, B0.trans (hb1.mono B0.size)⟩
  rw [hb] at CB'
  have CB := Lib.hid CB'
  have CP' := specPattern s p o hs hp ho
  change ∀ w, Calls _ _ _ w fun e w' => e = .returned (.bool (patT (s, p, o))) ∧ Below w.heap.size w w' at CP'
  cases hq : patT (s, p, o)
  · have HR : Hid (ruleOk ts (s, p, o) = false) := Lib.hid (by unfold ruleOk; rw [hb, hne, hq]; rfl)
    rw [hq] at CP'
    have CP := Lib.hid CP'
    clear CB' CP' hb hne hq
    go_enter Try.func33, Try.ntmps33
    go_wp2_with fail
    refine CB.out.mono ?_
    rintro e w1 ⟨rfl, hb1⟩
    have B1 := B0.trans (hb1.mono B0.size)
    have X1 := X0.next hb1
    clear hb1 B0 X0 x0 x1 x2 x3
    obtain ⟨x0, x1, x2, x3⟩ := X1.cells
    go_wp2_with fail
    refine (CP.out _).mono ?_
    rintro e w2 ⟨rfl, hb2⟩
    go_wp2_with fail
    go_ret
    exact ⟨by rw [HR.out]; rfl, B1.trans (hb2.mono B1.size)⟩
  rw [hq] at CP'
  have CP := Lib.hid CP'
  have HST : Hid (ruleOk ts (s, p, o) = headIn (allVars ts) (allVars [(s, p, o)])) := Lib.hid (by unfold ruleOk; rw [hb, hne, hq]; rfl)
  have hl4 : ts.length ≤ 4 := by have hq' := hb; unfold bgpOk at hq'; simp only [Bool.and_eq_true, decide_eq_true_eq] at hq'; exact hq'.1
  have hSm1 : Sm [(s, p, o)] := by
    intro t ht
    obtain rfl : t = (s, p, o) := by simpa using ht
    exact ⟨hs, hp, ho⟩
  have V1' := fun W hi => specVars a n c ts W hi HM.out (by have := HL.out; omega)
  have V2' := fun b W hi => specVars (some ⟨b, 0, none⟩) 1 1 [(s, p, o)] W hi hSm1 (by omega)
  have hA1 := allVars_len ts
  have hA2 := allVars_len [(s, p, o)]
  generalize allVars ts = L at V1' HST hA1
  generalize allVars [(s, p, o)] = HH at V2' HST hA2
  simp only [List.length_cons, List.length_nil] at hA2
  obtain ⟨m, hm⟩ : ∃ m, HH.length = m := ⟨_, rfl⟩
  rw [hm] at hA2
  have HLM := Lib.hid hm
  obtain ⟨l, hl⟩ : ∃ l, L.length = l := ⟨_, rfl⟩
  rw [hl] at hA1
  have HLL := Lib.hid hl
  have V1 := Lib.hid V1'
  have V2 := Lib.hid V2'
  clear CB' CP' hb hne hq V1' V2' hm hl
  go_enter Try.func33, Try.ntmps33
  go_wp2_with fail
  refine CB.out.mono ?_
  rintro e w1 ⟨rfl, hb1⟩
  have B1 := B0.trans (hb1.mono B0.size)
  have X1 := X0.next hb1
  clear hb1 B0 X0 x0 x1 x2 x3
  obtain ⟨x0, x1, x2, x3⟩ := X1.cells
  go_wp2_with fail
  refine (CP.out _).mono ?_
  rintro e w2 ⟨rfl, hb2⟩
  have B2 := B1.trans (hb2.mono B1.size)
  have X2 := X1.next hb2
  clear hb2 B1 X1 x0 x1 x2 x3
  obtain ⟨x0, x1, x2, x3⟩ := X2.cells
  go_wp2_with fail
  refine (V1.out _ (H.out.next B2)).mono ?_
  rintro e w3 ⟨g3, n3, c3, rfl, o3, hl3, hb3⟩
  obtain rfl : l = n3 := by rw [← hl3, HLL.out]
  obtain ⟨va, vc, e3, i3⟩ := ownS_isN o3 (by rw [List.length_map, HLL.out])
  simp only [Value.slice.injEq, true_and] at e3
  obtain ⟨rfl, rfl⟩ := e3
  clear hl3
  have B3 := B2.trans (hb3.mono B2.size)
  have X3 := X2.next hb3
  have BA := (Below.refl w3.heap.size w3).alloc (Nat.le_refl _) (.cells #[.string s, .string p, .string o] 30)
  have I3 := Lib.hid (i3.next BA)
  have B4 := B3.trans (BA.mono B3.size)
  have T3 := Lib.hid (tris_one w3 s p o (by unfold maxLen; omega) (by unfold maxLen; omega) (by unfold maxLen; omega))
  clear hb3 B2 X2 x0 x1 x2 x3 o3 i3 BA B3
  obtain ⟨x0, x1, x2, x3⟩ := X3.cells
  go_wp2_with fail
  refine (V2.out _ _ T3.out).mono ?_
  rintro e w5 ⟨g5, n5, c5, rfl, o5, hl5, hb5⟩
  obtain rfl : m = n5 := by rw [← hl5, HLM.out]
  obtain ⟨ua, uc, e5, i5⟩ := ownS_isN o5 (by rw [List.length_map, HLM.out])
  simp only [Value.slice.injEq, true_and] at e5
  obtain ⟨rfl, rfl⟩ := e5
  clear hl5
  have B5 := B4.trans (hb5.mono B4.size)
  have I5 := Lib.hid (And.intro (I3.out.next hb5) i5)
  clear hb5 o5 i5 I3 T3 B4 x0 x1 x2 x3 X3
  go_wp2_with fail
  go_loop [5] (fun i => ∃ k : Nat, k ≤ m ∧ i = .int .i64 k ∧ Hid (∀ (i : Nat) (v : Txt), i < k → HH[i]? = some v → hasB (L.map bs) (bs v) = true)) (fun i => m - (intOf i).toNat)
  case atStart => exact ⟨0, Nat.zero_le _, rfl, Lib.hid (fun i v hi => by omega)⟩
  case round =>
    obtain ⟨k, hk, rfl, hno⟩ := hrel
    by_cases hlt : k < m
    · obtain ⟨b, off, hbo, hb, _, _, hts, hcs⟩ := I5.out.2.cells (by omega)
      cases hbo
      have hv : HH[k]? = some (HH[k]'(by have := HLM.out; omega)) := List.getElem?_eq_getElem _
      have hc := hcs k (bs (HH[k]'(by have := HLM.out; omega))) (by rw [List.getElem?_map, hv]; rfl)
      rw [Nat.zero_add] at hc
      generalize HH[k]'(by have := HLM.out; omega) = v at hv hc
      have hk6 : (0 : Int) ≤ (k : Int) := by omega
      have hk7 : (k : Int) < (m : Int) := by omega
      have HV := Lib.hid hv
      have CC' := specHas (some ⟨g3, 0, none⟩) l c3 (L.map bs) (bs v) w5 I5.out.1 (by omega)
      obtain ⟨sb, hsb⟩ : ∃ sb, bs v = sb := ⟨_, rfl⟩
      rw [hsb] at hc CC'
      have HSB := Lib.hid hsb
      clear hts hcs hv hsb
      cases he : hasB (L.map bs) sb
      · have HR : Hid (ruleOk ts (s, p, o) = false) := Lib.hid (by rw [HST.out]; exact headIn_no HV.out (by rw [HSB.out]; exact he))
        rw [he] at CC'
        have CC := Lib.hid CC'
        clear CC' he hno
        go_wp2_with fail
        refine CC.out.mono ?_
        rintro e w6 ⟨rfl, rfl⟩
        go_wp2_with fail
        go_ret
        exact ⟨by rw [HR.out]; rfl, B5⟩
      · have HN : Hid (∀ (i : Nat) (v : Txt), i < k + 1 → HH[i]? = some v → hasB (L.map bs) (bs v) = true) := Lib.hid (fun i u hi hu => by
          rcases Nat.lt_or_ge i k with g | g
          · exact hno.out i u g hu
          · obtain rfl : i = k := by omega
            rw [HV.out] at hu; obtain rfl := Option.some.inj hu; rw [HSB.out]; exact he)
        rw [he] at CC'
        have CC := Lib.hid CC'
        clear CC' he hno
        go_wp2_with fail
        refine CC.out.mono ?_
        rintro e w6 ⟨rfl, rfl⟩
        go_wp2_with fail
        go_round
        case rel => exact ⟨k + 1, by omega, by go_num, HN⟩
        case measure => simp [intOf]; omega
    · have HR : Hid (ruleOk ts (s, p, o) = true) := Lib.hid (by rw [HST.out]; exact headIn_yes (fun i v hi hv => hno.out i v (by have := HLM.out; omega) hv))
      clear hno
      go_wp2_with fail
      go_ret
      exact ⟨by rw [HR.out]; rfl, B5⟩
end Go.Proofs.Ytapcbhpkbdlinab
