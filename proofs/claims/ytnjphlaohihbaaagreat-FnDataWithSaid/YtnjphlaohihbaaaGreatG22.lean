/- The specification's look for a triple. -/
import Derived.Test.YtnjphlaohihbaaaGreatG20
import Derived.Test.YtnjphlaohihbaaaGreatG18
import Derived.Test.YtnjphlaohihbaaaGreatG01
import Derived.Deep.QuietTactic
import Derived.BigQuiet
import Derived.Laws.AppendOwnNone
import Derived.Deep.RegionHeld3
import Derived.Test.YtnjphlaohihbaaaGreatG09
import Derived.Test.YtnjphlaohihbaaaGreatG21
import Derived.Test.YtnjphlaohihbaaaGreatG17
namespace Go.Proofs.YtnjphlaohihbaaaGreat
open Go.RowKit Go.WideShapes
set_option maxRecDepth 100000 in
set_option maxHeartbeats 1600000 in
theorem specHas2 (a : Option Addr) (len cap : Nat) (ts : List Tri3) (s p o : ByteArray) (w : World) (h : IsTris w a len cap ts) (hl : len ≤ 1048576) :
    Calls Tryz.prog 74 #[.slice a len cap, .agg #[.string s, .string p, .string o]] w fun e w' => e = .returned (.bool (decide ((s, p, o) ∈ ts))) ∧ Below w.heap.size w w' := by
  have H := Lib.hid h
  have HT := Lib.hid h.len
  have B0 := (Below.refl w.heap.size w).alloc (Nat.le_refl _) (.cells #[.string s, .string p, .string o] 26)
  have X0 := Box.new w (.string s) (.string p) (.string o) 26
  clear h
  go_enter Tryz.func74, Tryz.ntmps74
  go_wp2_with fail
  go_loopw [5] (fun i wr => ∃ k : Nat, k ≤ len ∧ i = .int .i64 k ∧ Hid ((s, p, o) ∉ ts.take k) ∧ Hid (Box wr w.heap.size (.string s) (.string p) (.string o) 26) ∧ Below w.heap.size w wr) (fun i _ => len - (intOf i).toNat)
  case atStart => exact ⟨0, Nat.zero_le _, rfl, Lib.hid (by simp), Lib.hid X0, B0⟩
  case round =>
    obtain ⟨k, hk, rfl, hnot, hbox, hnx⟩ := hrel
    clear X0 B0
    have hk6 : (0 : Int) ≤ (k : Int) := by omega
    have hk8 : k ≤ 1048576 := by omega
    by_cases hlt : k < len
    · have hk7 : (k : Int) < (len : Int) := by omega
      obtain ⟨b, off, rfl, hb, hl', hm, hts, hcs⟩ := H.out.cells (by omega)
      have ht : ts[k]? = some (ts[k]'(by omega)) := List.getElem?_eq_getElem (by omega)
      have HS : Hid (ts.take (k + 1) = ts.take k ++ [ts[k]'(by omega)]) := Lib.hid (List.take_succ_eq_append_getElem (by omega))
      obtain ⟨d0, d1, d2, m0, m1, m2⟩ := hcs k _ ht
      rw [← hnx.cell (p := ⟨b, _, none⟩) hb] at d0 d1 d2
      generalize ts[k]'(by omega) = u at ht d0 d1 d2 m0 m1 m2 HS
      obtain ⟨c0, c1, c2⟩ := hbox.out.cells
      by_cases he : u = (s, p, o)
      · subst he
        have HR : Hid (decide ((s, p, o) ∈ ts) = true) := Lib.hid (decide_eq_true (List.mem_of_getElem? ht))
        have EQ := tri_is s p o
        simp only at d0 d1 d2
        clear ht hts hcs hm m0 m1 m2 hl' hnot HS
        go_wp2_with fail
        go_quiet (fail)
        clear EQ
        go_wp2_with fail
        go_ret
        exact ⟨by rw [HR.out]; rfl, below_drewN hnx nq⟩
      · have EQ := tri_isnt he
        simp only at EQ
        have HN : Hid ((s, p, o) ∉ ts.take (k + 1)) := Lib.hid (by
          rw [HS.out, List.mem_append]
          rintro (h | h)
          · exact hnot.out h
          · exact he (List.mem_singleton.1 h).symm)
        have X1 : Hid (∀ n, Box (wr.drewN n) w.heap.size (.string s) (.string p) (.string o) 26) := Lib.hid (fun n => hbox.out)
        have HB : Hid (∀ n, Below w.heap.size w (wr.drewN n)) := Lib.hid (fun n => below_drewN hnx n)
        clear ht hts hcs hm m0 m1 m2 hl' hnot HS he
        go_wp2_with fail
        go_quiet (fail)
        clear EQ
        go_wp2_with fail
        go_roundw
        case rel => exact ⟨k + 1, by omega, by go_num, HN, Lib.hid (X1.out _), HB.out _⟩
        case measure => simp [intOf]; omega
    · obtain rfl : k = len := by omega
      have HR : Hid (decide ((s, p, o) ∈ ts) = false) := Lib.hid (decide_eq_false (by
        have := hnot.out
        rwa [List.take_of_length_le (by rw [HT.out]; exact Nat.le_refl _)] at this))
      go_wp2_with fail
      go_ret
      exact ⟨by rw [HR.out]; rfl, hnx⟩
end Go.Proofs.YtnjphlaohihbaaaGreat
/- SpecL, the rest. -/
namespace Go.Proofs.YtnjphlaohihbaaaGreat
open Go.RowKit Go.WideShapes
theorem lessT_snoc (g : List Tri3) (t u : Tri3) : lessT (g ++ [u]) t = if u = t then lessT g t else lessT g t ++ [u] := by
  unfold lessT
  rw [List.filter_append]
  by_cases h : u = t <;> simp [h]
set_option maxRecDepth 100000 in
set_option maxHeartbeats 1600000 in
theorem specLess (a : Option Addr) (len cap : Nat) (ts : List Tri3) (s p o : ByteArray) (w : World) (h : IsTris w a len cap ts) (hl : len ≤ 1048576) :
    Calls Tryz.prog 75 #[.slice a len cap, .agg #[.string s, .string p, .string o]] w fun e w' => ∃ v, e = .returned v ∧ OwnT w.heap.size w' v (lessT ts (s, p, o)) ∧ Below w.heap.size w w' := by
  obtain ⟨i0, hi, hz0, hz1, hz2⟩ := info_parts infoTri
  have H := Lib.hid h
  have HT := Lib.hid h.len
  have B0 := ((Below.refl w.heap.size w).alloc (Nat.le_refl _) (.cells #[.string s, .string p, .string o] 26)).alloc (by simp) (.cells #[] 26)
  have X0 := (Box.new w (.string s) (.string p) (.string o) 26).alloc (.cells #[] 26)
  have O0 : OwnT (w.heap.size + 1) ((w.alloc (.cells #[.string s, .string p, .string o] 26)).alloc (.cells #[] 26)) (.slice (some ⟨w.heap.size + 1, 0, none⟩) 0 0) [] := by
    have := World.ownsRow_lit (size := 3) (e := 26) (w.alloc (.cells #[.string s, .string p, .string o] 26)) #[] 0 (Nat.le_refl _) (by decide) rfl
    rw [World.size_alloc] at this
    exact this
  clear h
  go_enter Tryz.func75, Tryz.ntmps75
  go_wp2_with fail
  go_loopw [5, 6] (fun v' i wr => ∃ (k : Nat) (v : Value), k ≤ len ∧ i = .int .i64 k ∧ v = v' ∧ Hid (OwnT (w.heap.size + 1) wr v (lessT (ts.take k) (s, p, o))) ∧ Hid (Box wr w.heap.size (.string s) (.string p) (.string o) 26) ∧ Below w.heap.size w wr) (fun _ i _ => len - (intOf i).toNat)
  case atStart => exact ⟨0, _, Nat.zero_le _, rfl, rfl, Lib.hid (by simpa [lessT] using O0), Lib.hid X0, B0⟩
  case round =>
    obtain ⟨k, v, hk, rfl, rfl, hown, hbox, hnx⟩ := hrel
    clear X0 B0 O0
    have hk6 : (0 : Int) ≤ (k : Int) := by omega
    have hk8 : k ≤ 1048576 := by omega
    by_cases hlt : k < len
    · have hk7 : (k : Int) < (len : Int) := by omega
      obtain ⟨b, off, rfl, hb, hl', hm, hts, hcs⟩ := H.out.cells (by omega)
      have ht : ts[k]? = some (ts[k]'(by omega)) := List.getElem?_eq_getElem (by omega)
      have HS : Hid (ts.take (k + 1) = ts.take k ++ [ts[k]'(by omega)]) := Lib.hid (List.take_succ_eq_append_getElem (by omega))
      obtain ⟨d0, d1, d2, m0, m1, m2⟩ := hcs k _ ht
      rw [← hnx.cell (p := ⟨b, _, none⟩) hb] at d0 d1 d2
      generalize ts[k]'(by omega) = u at ht d0 d1 d2 m0 m1 m2 HS
      obtain ⟨c0, c1, c2⟩ := hbox.out.cells
      have hll : (lessT (ts.take k) (s, p, o)).length ≤ k := Nat.le_trans (lessT_len _ _) (by rw [List.length_take]; omega)
      by_cases he : u = (s, p, o)
      · subst he
        have EQ := tri_same s p o
        have HN : Hid (lessT (ts.take (k + 1)) (s, p, o) = lessT (ts.take k) (s, p, o)) := Lib.hid (by rw [HS.out, lessT_snoc, if_pos rfl])
        have HB : Hid (∀ n, Below w.heap.size w (wr.drewN n)) := Lib.hid (fun n => below_drewN hnx n)
        have X1 : Hid (∀ n, Box (wr.drewN n) w.heap.size (.string s) (.string p) (.string o) 26) := Lib.hid (fun n => hbox.out)
        have O1 : Hid (∀ n, OwnT (w.heap.size + 1) (wr.drewN n) v (lessT (ts.take (k + 1)) (s, p, o))) := Lib.hid (fun n => by rw [HN.out]; exact hown.out)
        simp only at d0 d1 d2
        clear ht hts hcs hm m0 m1 m2 hl' HS hown HN hll
        go_wp2_with fail
        go_quiet (fail)
        clear EQ
        go_wp2_with fail
        go_roundw
        case rel => exact ⟨k + 1, _, by omega, by go_num, rfl, Lib.hid (O1.out _), Lib.hid (X1.out _), HB.out _⟩
        case measure => simp [intOf]; omega
      · have EQ : ∀ w, (binOp .neq 26 (.agg #[.string u.1, .string u.2.1, .string u.2.2]) (.agg #[.string s, .string p, .string o])).run Tryz.prog w = .ok (.bool true) w := fun w => by rw [tri_ne, tri_not he]; rfl
        have HN : Hid (lessT (ts.take (k + 1)) (s, p, o) = lessT (ts.take k) (s, p, o) ++ [u]) := Lib.hid (by rw [HS.out, lessT_snoc, if_neg he])
        have BQ : Hid (∀ n, Below w.heap.size w (wr.drewN n)) := Lib.hid (fun n => below_drewN hnx n)
        have XQ : Hid (∀ n, Box (wr.drewN n) w.heap.size (.string s) (.string p) (.string o) 26) := Lib.hid (fun n => hbox.out)
        have OQ : Hid (∀ n, OwnT (w.heap.size + 1) (wr.drewN n) v (lessT (ts.take k) (s, p, o))) := Lib.hid (fun n => hown.out)
        have DQ := Lib.hid (And.intro d0 (And.intro d1 d2))
        obtain ⟨pl, hpl⟩ : ∃ l, lessT (ts.take k) (s, p, o) = l := ⟨_, rfl⟩
        rw [hpl] at HN OQ hll
        clear ht hts hcs hm m0 m1 m2 hl' HS hown he hbox hnx hpl
        go_wp2_with fail
        go_quiet (fail)
        clear EQ c0 c1 c2 d0 d1 d2
        have BE := BQ.out nq
        have XE := XQ.out nq
        have OE := OQ.out nq
        have DE : (wr.drewN nq).cell? ⟨b, off + k * 3, none⟩ = some (.string u.1) ∧ (wr.drewN nq).cell? ⟨b, off + k * 3 + 1, none⟩ = some (.string u.2.1) ∧ (wr.drewN nq).cell? ⟨b, off + k * 3 + 2, none⟩ = some (.string u.2.2) := DQ.out
        clear BQ XQ OQ DQ
        generalize wr.drewN nq = we at BE XE OE DE ⊢
        obtain ⟨d0, d1, d2⟩ := DE
        have hcl : w.heap.size < we.heap.size := XE.lt
        have hne := fun j hj => (World.ownsRow.lt OE j hj).1
        have HC : ∀ (j : Nat) (x : Value), [Value.string u.1, .string u.2.1, .string u.2.2][j]? = some x → (we.alloc (.cells #[.string u.1, .string u.2.1, .string u.2.2] 26)).cell? ((⟨we.heap.size, 0, none⟩ : Addr).add j) = some x := three_cell
        have HH := Lib.hid HC
        have BA := BE.alloc BE.size (.cells #[.string u.1, .string u.2.1, .string u.2.2] 26)
        have XA := XE.alloc (.cells #[.string u.1, .string u.2.1, .string u.2.2] 26)
        have OA := Lib.hid (World.ownsRow.alloc OE (.cells #[.string u.1, .string u.2.1, .string u.2.2] 26))
        clear HC BE XE OE
        go_wp2_with (at_builtin; refine wpList_append_own _ rfl _ _ 33 rfl (w.heap.size + 1) 26 i0 (.agg #[.string ⟨#[]⟩, .string ⟨#[]⟩, .string ⟨#[]⟩]) 3 48 Tryz.underlying33 hi hz0 hz1 hz2 rfl (by decide) _ _ _ rfl OA.out ⟨we.heap.size, 0, none⟩ 1 _ [.string u.1, .string u.2.1, .string u.2.2] rfl rfl HH.out (by first | exact flat_one _ | (intro x hx; simp at hx; rcases hx with rfl | rfl | rfl <;> rfl)) ?h63a ?h48a ?hbsa ?_)
        case h63a => unfold maxLen; omega
        case h48a => omega
        case hbsa => simp only [World.size_alloc]; omega
        intro v2 w2 hown2 hg2 _
        have O2 : OwnT (w.heap.size + 1) w2 v2 (lessT (ts.take (k + 1)) (s, p, o)) := by rw [HN.out]; exact own3_snoc (t := u) hown2
        have B2 : Below w.heap.size w w2 := BA.grown hg2 BA.size (fun j hj => by have := hne j hj; omega)
        have X2 := XA.grown hg2 (by intro e; have := hne _ e.symm; omega)
        have HO2 := Lib.hid O2
        have HX2 := Lib.hid X2
        clear hown2 hg2 OA HH BA XA O2 X2 d0 d1 d2
        go_wp2_with fail
        go_roundw
        case rel => exact ⟨k + 1, _, by omega, by go_num, rfl, HO2, HX2, B2⟩
        case measure => simp [intOf]; omega
    · obtain rfl : k = len := by omega
      have HO : Hid (OwnT (w.heap.size + 1) wr v (lessT ts (s, p, o))) := Lib.hid (by
        have := hown.out
        rwa [List.take_of_length_le (by rw [HT.out]; exact Nat.le_refl _)] at this)
      clear hown
      go_wp2_with fail
      go_ret
      exact ⟨v, rfl, own_base HO.out (by omega), hnx⟩
open Go.RowKit Go.WideShapes
set_option maxRecDepth 100000 in
set_option maxHeartbeats 1600000 in
theorem specWithout (a : Option Addr) (len cap : Nat) (ts : List Tri3) (s p o : ByteArray) (w : World) (h : IsTris w a len cap ts) (_hpl : Plain a) (hsm : Sm ts) (_hs : s.size ≤ 2097152) (_hp : p.size ≤ 2097152) (_ho : o.size ≤ 2097152) :
    Calls Tryz.prog 50 #[.slice a len cap, .agg #[.string s, .string p, .string o]] w (ResPost (withoutT ts (s, p, o)) w) := by
  have A1 := specGraphOk a len cap ts (w.alloc (.cells #[.string s, .string p, .string o] 26)) (h.next ((Below.refl w.heap.size w).alloc (Nat.le_refl _) _)) hsm
  have B0 := (Below.refl w.heap.size w).alloc (Nat.le_refl _) (.cells #[.string s, .string p, .string o] 26)
  have X0 := Box.new w (.string s) (.string p) (.string o) 26
  have h0 := h.next B0
  cases hg : graphOk ts
  · rw [hg] at A1
    have HR : Hid (withoutT ts (s, p, o) = none) := Lib.hid (by unfold withoutT; rw [hg]; simp)
    have C1 := Lib.hid A1
    clear A1 hg h h0 hsm X0
    go_enter Tryz.func50, Tryz.ntmps50
    go_wp2_with fail
    refine C1.out.mono ?_
    rintro e w1 ⟨rfl, hb1⟩
    go_wp2_with fail
    go_ret2
    rw [HR.out]
    exact ResPost.no (B0.trans (hb1.mono B0.size))
  rw [hg] at A1
  have hl := h.len
  have hl80 := graphOk_len hg
  have hlen : len ≤ 1048576 := by omega
  have C1 := Lib.hid A1
  have HY : Hid ((s, p, o) ∈ ts → withoutT ts (s, p, o) = some (lessT ts (s, p, o))) := Lib.hid (fun c => by unfold withoutT; rw [if_pos ⟨hg, c⟩])
  have HN : Hid ((s, p, o) ∉ ts → withoutT ts (s, p, o) = none) := Lib.hid (fun c => by unfold withoutT; rw [if_neg (fun h => c h.2)])
  have W1 : Hid (∀ w, IsTris w a len cap ts → Calls Tryz.prog 74 #[.slice a len cap, .agg #[.string s, .string p, .string o]] w fun e w' => e = .returned (.bool (decide ((s, p, o) ∈ ts))) ∧ Below w.heap.size w w') := Lib.hid (fun w h => specHas2 a len cap ts s p o w h hlen)
  have W2 : Hid (∀ w, IsTris w a len cap ts → Calls Tryz.prog 75 #[.slice a len cap, .agg #[.string s, .string p, .string o]] w fun e w' => ∃ v, e = .returned v ∧ OwnT w.heap.size w' v (lessT ts (s, p, o)) ∧ Below w.heap.size w w') := Lib.hid (fun w h => specLess a len cap ts s p o w h hlen)
  clear A1 hg h hsm hl hl80
  by_cases hin : (s, p, o) ∈ ts
  · have HR := Lib.hid (HY.out hin)
    rw [decide_eq_true hin] at W1
    clear HY HN hin
    go_enter Tryz.func50, Tryz.ntmps50
    go_wp2_with fail
    refine C1.out.mono ?_
    rintro e w1 ⟨rfl, hb1⟩
    have X1 := X0.next hb1
    have h1 := h0.next hb1
    obtain ⟨c0, c1, c2⟩ := X1.cells
    have B1 := B0.trans (hb1.mono B0.size)
    clear X0 hb1 B0 h0
    go_wp2_with fail
    refine (W1.out _ h1).mono ?_
    rintro e w2 ⟨rfl, hb2⟩
    have X2 := X1.next hb2
    have h2 := h1.next hb2
    have B2 := B1.trans (hb2.mono B1.size)
    clear X1 hb2 B1 h1 c0 c1 c2
    obtain ⟨c0, c1, c2⟩ := X2.cells
    go_wp2_with fail
    refine (W2.out _ h2).mono ?_
    rintro e w3 ⟨v, rfl, ho3, hb3⟩
    have O3 := Lib.hid (own_base ho3 B2.size)
    have B3 := B2.trans (hb3.mono B2.size)
    clear ho3 hb3 h2 X2 c0 c1 c2 W1 W2
    go_wp2_with fail
    go_ret2
    rw [HR.out]
    exact ResPost.yes O3.out B3
  · have HR := Lib.hid (HN.out hin)
    rw [decide_eq_false hin] at W1
    clear HY HN hin W2
    go_enter Tryz.func50, Tryz.ntmps50
    go_wp2_with fail
    refine C1.out.mono ?_
    rintro e w1 ⟨rfl, hb1⟩
    have X1 := X0.next hb1
    have h1 := h0.next hb1
    obtain ⟨c0, c1, c2⟩ := X1.cells
    have B1 := B0.trans (hb1.mono B0.size)
    clear X0 hb1 B0 h0
    go_wp2_with fail
    refine (W1.out _ h1).mono ?_
    rintro e w2 ⟨rfl, hb2⟩
    go_wp2_with fail
    go_ret2
    rw [HR.out]
    exact ResPost.no (B1.trans (hb2.mono B1.size))
end Go.Proofs.YtnjphlaohihbaaaGreat
/- A triple put into a dataset's graph, or taken out of it: the specification. -/
namespace Go.Proofs.YtnjphlaohihbaaaGreat
open Go.RowKit Go.WideShapes
def dataWith (ts : List NamV) (s : ByteArray) (t : Tri3) : Option (List NamV) :=
  if dataOk ts = true ∧ kindL s.data.toList = 1 then
    match withT (graphAt ts s) t with
    | none => none
    | some g => if dataOk (putNam ts (s, g)) = true then some (putNam ts (s, g)) else none
  else none
def dataWithout (ts : List NamV) (s : ByteArray) (t : Tri3) : Option (List NamV) :=
  if dataOk ts = true then
    match withoutT (graphAt ts s) t with
    | none => none
    | some g => some (putNam ts (s, g))
  else none
def ResN (r : Option (List NamV)) (w : World) (e : Ending) (w' : World) : Prop :=
  ∃ v, e = .returned (.tuple #[v, .bool r.isSome]) ∧ OwnNs w.heap.size w' v (r.getD []) ∧ Below w.heap.size w w'
theorem ResN.no {w w' : World} (hb : Below w.heap.size w w') : ResN none w (.returned (.tuple #[.slice none 0 0, .bool false])) w' := ⟨_, rfl, ⟨[], World.ownsRow_nil .., InnN.nil _ _, by simp⟩, hb⟩
theorem ResN.yes {w w' : World} {v : Value} {ts : List NamV} (h : OwnNs w.heap.size w' v ts) (hb : Below w.heap.size w w') : ResN (some ts) w (.returned (.tuple #[v, .bool true])) w' := ⟨_, rfl, h, hb⟩
theorem OwnNs.keep {B : Nat} {w w' : World} {v : Value} {ts : List NamV} (h : OwnNs B w v ts) (hb : Below w.heap.size w w') : OwnNs B w' v ts := by
  obtain ⟨us, h1, h2, h3⟩ := h
  exact (OutN.next (⟨h1, h2, h3⟩ : OutN B w v ts us) hb).own
theorem putGo_mem {x y : NamV} : ∀ {ts : List NamV} {d : Bool}, y ∈ putGo x d ts → y = x ∨ y ∈ ts
  | [], d, h => by
    unfold putGo at h
    cases d
    · left; simpa using h
    · simp at h
  | r :: rs, d, h => by
    unfold putGo at h
    rcases List.mem_append.1 h with h | h
    · left
      split at h
      · simpa using h
      · simp at h
    · rcases List.mem_append.1 h with h | h
      · right
        split at h
        · simp at h
        · simp at h; simp [h]
      · rcases putGo_mem h with h | h
        · exact .inl h
        · exact .inr (List.mem_cons_of_mem _ h)
theorem putNam_sm {ts : List NamV} {x : NamV} (h : SmN ts) (hx : x.1.size ≤ 1048576 ∧ ∀ t ∈ x.2, t.1.size + t.2.1.size + t.2.2.size ≤ 1048576) : SmN (putNam ts x) := by
  intro y hy
  rcases putGo_mem hy with rfl | hy
  · exact hx
  · exact h y hy
theorem SmN.all {ts : List NamV} (h : SmN ts) : SmAllN ts := by
  intro r hr
  obtain ⟨h1, h2⟩ := h r hr
  refine ⟨by unfold maxLen; omega, fun t ht => ?_⟩
  have := h2 t ht
  unfold maxLen
  omega
theorem graphAt_sm {ts : List NamV} (h : SmN ts) (s : ByteArray) : ∀ t ∈ graphAt ts s, t.1.size + t.2.1.size + t.2.2.size ≤ 1048576 := by
  rcases graphAt_mem ts s with e | ⟨r, hr, e⟩
  · rw [e]; intro t ht; simp at ht
  · rw [e]; exact (h r hr).2
theorem withT_mem {g g' : List Tri3} {t : Tri3} (h : withT g t = some g') : ∀ u ∈ g', u = t ∨ u ∈ g := by
  obtain ⟨_, _, rfl, _⟩ := withT_some h
  intro u hu
  exact putT_mem.1 hu
theorem withoutT_mem {g g' : List Tri3} {t : Tri3} (h : withoutT g t = some g') : ∀ u ∈ g', u ∈ g := by
  obtain ⟨_, _, rfl, _⟩ := withoutT_some h
  intro u hu
  exact (lessT_mem.1 hu).2
set_option maxRecDepth 100000 in
set_option maxHeartbeats 3200000 in
theorem specDataWith (a : Option Addr) (len cap : Nat) (ts : List NamV) (s t0 t1 t2 : ByteArray) (w : World) (h : IsNams w a len cap ts) (hs : SmN ts) (hsz : s.size ≤ 1048576) (ht : t0.size + t1.size + t2.size ≤ 1048576) (htot : totN ts ≤ 1048576) :
    Calls Tryz.prog 10 #[.slice a len cap, .string s, .agg #[.string t0, .string t1, .string t2]] w (ResN (dataWith ts s (t0, t1, t2)) w) := by
  have X0 := Box.new w (.string t0) (.string t1) (.string t2) 26
  have B0 := (Below.refl w.heap.size w).alloc (Nat.le_refl _) (.cells #[.string t0, .string t1, .string t2] 26)
  have C := specDataOk a len cap ts _ (h.next B0) hs
  have H := Lib.hid h
  have HS := Lib.hid hs
  have HX0 := Lib.hid X0
  clear h
  cases hq : dataOk ts
  · rw [hq] at C
    have HC := Lib.hid C
    have HG : Hid (dataWith ts s (t0, t1, t2) = none) := Lib.hid (by unfold dataWith; rw [if_neg]; intro h; rw [hq] at h; exact Bool.noConfusion h.1)
    clear C hq hs X0
    go_enter Tryz.func10, Tryz.ntmps10
    go_wp2_with fail
    refine HC.out.mono ?_
    rintro e w1 ⟨rfl, hb1⟩
    have B1 := B0.trans (hb1.mono B0.size)
    go_wp2_with fail
    go_ret2
    rw [HG.out]
    exact ResN.no B1
  rw [hq] at C
  have HC := Lib.hid C
  have hl6 : len ≤ 1048570 := by
    have h1 := H.out.len
    have h2 : ts.length ≤ 6 := by unfold dataOk at hq; rw [Bool.and_eq_true, decide_eq_true_eq] at hq; exact hq.1
    omega
  obtain ⟨kk, hkk⟩ : ∃ k, kindL s.data.toList = k := ⟨_, rfl⟩
  have V0 := specKindOf s (by omega)
  rw [hkk] at V0
  have HV := Lib.hid V0
  by_cases hk1 : kk = 1
  rotate_left
  · have hk2 : ¬ ((kk : Nat) : Int) = 1 := by omega
    have HG : Hid (dataWith ts s (t0, t1, t2) = none) := Lib.hid (by unfold dataWith; rw [if_neg]; intro h; rw [hkk] at h; exact hk1 h.2)
    clear C hq hs X0 hkk V0
    go_enter Tryz.func10, Tryz.ntmps10
    go_wp2_with fail
    refine HC.out.mono ?_
    rintro e w1 ⟨rfl, hb1⟩
    have B1 := B0.trans (hb1.mono B0.size)
    go_wp2_with fail
    refine (HV.out _).mono ?_
    rintro e w2 ⟨rfl, hb2⟩
    have B2 := B1.trans (hb2.mono B1.size)
    go_wp2_with fail
    go_ret2
    rw [HG.out]
    exact ResN.no B2
  subst hk1
  have HD : Hid (dataWith ts s (t0, t1, t2) = (match withT (graphAt ts s) (t0, t1, t2) with
    | none => none
    | some g => if dataOk (putNam ts (s, g)) = true then some (putNam ts (s, g)) else none)) := Lib.hid (by unfold dataWith; rw [if_pos ⟨hq, hkk⟩])
  have HGS := Lib.hid (graphAt_sm hs s)
  have HWM : Hid (∀ g, withT (graphAt ts s) (t0, t1, t2) = some g → ∀ u ∈ g, u.1.size + u.2.1.size + u.2.2.size ≤ 1048576) := Lib.hid (fun g hg u hu => by
    rcases withT_mem hg u hu with rfl | hu
    · exact ht
    · exact HGS.out u hu)
  have hgsm : Sm (graphAt ts s) := fun u hu => by have := HGS.out u hu; omega
  have hgall : ∀ u ∈ graphAt ts s, u.1.size ≤ maxLen ∧ u.2.1.size ≤ maxLen ∧ u.2.2.size ≤ maxLen := fun u hu => by have := HGS.out u hu; unfold maxLen; omega
  have HGA := Lib.hid hgall
  have HGM := Lib.hid hgsm
  clear C hq hs X0 hgsm hgall hkk V0
  go_enter Tryz.func10, Tryz.ntmps10
  go_wp2_with fail
  refine HC.out.mono ?_
  rintro e w1 ⟨rfl, hb1⟩
  have B1 := B0.trans (hb1.mono B0.size)
  have X1 := HX0.out.next hb1
  clear hb1
  go_wp2_with fail
  refine (HV.out _).mono ?_
  rintro e w2 ⟨rfl, hb2⟩
  have B2 := B1.trans (hb2.mono B1.size)
  have X2 := X1.next hb2
  clear hb2 X1 B1 HV
  go_wp2_with fail
  refine wp_region_held_drew (S := (fun w' => w'.cell? ⟨w.heap.size, 0, none⟩ = some (.string t0) ∧ w'.cell? ⟨w.heap.size, 1, none⟩ = some (.string t1) ∧ w'.cell? ⟨w.heap.size, 2, none⟩ = some (.string t2))) (by kernel_rfl) ?_ (fun hHeld => ?_)
  · exact X2.drew.cells
  refine wpAnyH_take (i := 0) (v := ?_) rfl (by kernel_rfl) (by kernel_rfl) (by kernel_rfl) (fun _ _ _ h => h) (Or.inl ⟨by kernel_rfl, ?_⟩) (by assumption) ?_
  rotate_left
  · intro w hSw; (try dsimp only at hSw); go_simp; try with_reducible rfl
  refine wpAnyH_take (i := 1) (v := ?_) rfl (by kernel_rfl) (by kernel_rfl) (by kernel_rfl) (fun _ _ _ h => h) (Or.inl ⟨by kernel_rfl, ?_⟩) (by assumption) ?_
  rotate_left
  · intro w hSw; (try dsimp only at hSw); go_simp; try with_reducible rfl
  refine wpAnyH_take (i := 3) (v := ?_) rfl (by kernel_rfl) (by kernel_rfl) (by kernel_rfl) (fun _ _ _ h => h) (Or.inl ⟨by kernel_rfl, ?_⟩) (by assumption) ?_
  rotate_left
  · intro w hSw; (try dsimp only at hSw); go_simp; try with_reducible rfl
  refine wpAnyH_ready (rs := [2]) (by kernel_rfl) (by simp) ?_
  refine AllReadyH.cons rfl (fun K hK => ?_) AllReadyH.nil
  go_simp
  refine (specGraphAt a len cap ts s _ (H.out.next (by exact B2.drew)) htot).mono ?_
  rintro e w3 ⟨gv, rfl, og, hb3⟩
  have B3 : Below w.heap.size w w3 := B2.drew.trans (hb3.mono B2.drew.size)
  have X3 := X2.drew.next hb3
  obtain ⟨ga, gc, rfl, gi, gp⟩ := OwnT.plain og HGA.out
  have HGI := Lib.hid (And.intro gi gp)
  clear og gi gp hb3
  go_wp2_with fail
  clear hHeld
  refine hK.out _ _ ?_ (fun hHeld => ?_)
  · exact X3.cells
  clear hK K
  refine wpAnyH_ready (rs := [4]) (by kernel_rfl) (by simp) ?_
  refine AllReadyH.cons rfl (fun K hK => ?_) AllReadyH.nil
  go_simp
  refine (specWith ga _ gc _ t0 t1 t2 w3 HGI.out.1 HGI.out.2 HGM.out (by omega) (by omega) (by omega)).mono ?_
  rintro e w4 ⟨rv, rfl, ow, hb4⟩
  have B4 := B3.trans (hb4.mono B3.size)
  have X4 := X3.next hb4
  have OW := Lib.hid (own_base ow B3.size)
  clear ow hb4
  go_wp2_with fail
  clear hHeld
  refine hK.out _ _ ?_ (fun hHeld => ?_)
  · exact X4.cells
  clear hK K
  refine wpAnyH_take (i := 5) (v := ?_) rfl (by kernel_rfl) (by kernel_rfl) (by kernel_rfl) (fun _ _ _ h => h) (Or.inl ⟨by kernel_rfl, ?_⟩) (by assumption) ?_
  rotate_left
  · intro w hSw; (try dsimp only at hSw); go_simp; try with_reducible rfl
  refine wpAnyH_take (i := 6) (v := ?_) rfl (by kernel_rfl) (by kernel_rfl) (by kernel_rfl) (fun _ _ _ h => h) (Or.inl ⟨by kernel_rfl, ?_⟩) (by assumption) ?_
  rotate_left
  · intro w hSw; (try dsimp only at hSw); go_simp; try with_reducible rfl
  refine wpAnyH_take (i := 7) (v := ?_) rfl (by kernel_rfl) (by kernel_rfl) (by kernel_rfl) (fun _ _ _ h => h) (Or.inl ⟨by kernel_rfl, ?_⟩) (by assumption) ?_
  rotate_left
  · intro w hSw; (try dsimp only at hSw); go_simp; try with_reducible rfl
  refine wpAnyH_take (i := 8) (v := ?_) rfl (by kernel_rfl) (by kernel_rfl) (by kernel_rfl) (fun _ _ _ h => h) (Or.inl ⟨by kernel_rfl, ?_⟩) (by assumption) ?_
  rotate_left
  · intro w hSw; (try dsimp only at hSw); go_simp; try with_reducible rfl
  refine wpAnyH_take (i := 9) (v := ?_) rfl (by kernel_rfl) (by kernel_rfl) (by kernel_rfl) (fun _ _ _ h => h) (Or.inl ⟨by kernel_rfl, ?_⟩) (by assumption) ?_
  rotate_left
  · intro w hSw; (try dsimp only at hSw); go_simp; try with_reducible rfl
  refine wpAnyH_done (by kernel_rfl) ?_ _
  try simp only [Act.put, List.setIfInBounds_toArray, List.set_cons_zero, List.set_cons_succ, List.getElem_toArray, List.getElem_cons_zero, List.getElem_cons_succ]
  clear hHeld
  cases hw : withT (graphAt ts s) (t0, t1, t2) with
  | none =>
    have HG : Hid (dataWith ts s (t0, t1, t2) = none) := Lib.hid (by rw [HD.out, hw])
    rw [hw] at OW
    simp only [Option.isSome_none]
    go_wp2_with fail
    go_ret2
    rw [HG.out]
    exact ResN.no B4
  | some g =>
    have hsm2 := HWM.out g hw
    have HG : Hid (dataWith ts s (t0, t1, t2) = if dataOk (putNam ts (s, g)) = true then some (putNam ts (s, g)) else none) := Lib.hid (by rw [HD.out, hw])
    rw [hw] at OW
    simp only [Option.getD_some] at OW
    simp only [Option.isSome_some]
    obtain ⟨ra, rc, hre⟩ := own_slice_len OW.out
    subst hre
    have HPS : Hid (SmN (putNam ts (s, g))) := Lib.hid (putNam_sm HS.out ⟨hsz, hsm2⟩)
    have PP := Lib.hid (specPutNam w.heap.size a len cap ts s (.slice ra g.length rc) g w4 (H.out.next B4) OW.out B4.size hl6 htot)
    generalize putNam ts (s, g) = P at HG HPS PP
    clear hw hsm2 OW HD HWM HGS HGA HGM HGI X4
    go_wp2_with fail
    refine PP.out.mono ?_
    rintro e w5 ⟨pv, rfl, op, hb5⟩
    have B5 := B4.trans (hb5.mono B4.size)
    have OP := Lib.hid op
    clear op hb5 PP
    obtain ⟨pa, pc, rfl, pi⟩ := OP.out.is HPS.out.all
    have CK := specDataOk pa P.length pc P w5 pi HPS.out
    cases hp : dataOk P
    · rw [hp] at CK
      have HCK := Lib.hid CK
      have HN : Hid (dataWith ts s (t0, t1, t2) = none) := Lib.hid (by rw [HG.out, hp]; simp)
      clear CK hp pi
      go_wp2_with fail
      refine HCK.out.mono ?_
      rintro e w6 ⟨rfl, hb6⟩
      have B6 := B5.trans (hb6.mono B5.size)
      go_wp2_with fail
      go_ret2
      rw [HN.out]
      exact ResN.no B6
    · rw [hp] at CK
      have HCK := Lib.hid CK
      have HN : Hid (dataWith ts s (t0, t1, t2) = some P) := Lib.hid (by rw [HG.out, hp]; simp)
      clear CK hp pi
      go_wp2_with fail
      refine HCK.out.mono ?_
      rintro e w6 ⟨rfl, hb6⟩
      have B6 := B5.trans (hb6.mono B5.size)
      have O6 := Lib.hid (OP.out.keep hb6)
      go_wp2_with fail
      go_ret2
      rw [HN.out]
      exact ResN.yes O6.out B6
set_option maxRecDepth 100000 in
set_option maxHeartbeats 3200000 in
theorem specDataWithout (a : Option Addr) (len cap : Nat) (ts : List NamV) (s t0 t1 t2 : ByteArray) (w : World) (h : IsNams w a len cap ts) (hs : SmN ts) (hsz : s.size ≤ 1048576) (ht : t0.size + t1.size + t2.size ≤ 1048576) (htot : totN ts ≤ 1048576) :
    Calls Tryz.prog 21 #[.slice a len cap, .string s, .agg #[.string t0, .string t1, .string t2]] w (ResN (dataWithout ts s (t0, t1, t2)) w) := by
  have X0 := Box.new w (.string t0) (.string t1) (.string t2) 26
  have B0 := (Below.refl w.heap.size w).alloc (Nat.le_refl _) (.cells #[.string t0, .string t1, .string t2] 26)
  have C := specDataOk a len cap ts _ (h.next B0) hs
  have H := Lib.hid h
  have HS := Lib.hid hs
  have HX0 := Lib.hid X0
  clear h
  cases hq : dataOk ts
  · rw [hq] at C
    have HC := Lib.hid C
    have HG : Hid (dataWithout ts s (t0, t1, t2) = none) := Lib.hid (by unfold dataWithout; rw [if_neg]; intro h; rw [hq] at h; exact Bool.noConfusion h)
    clear C hq hs X0
    go_enter Tryz.func21, Tryz.ntmps21
    go_wp2_with fail
    refine HC.out.mono ?_
    rintro e w1 ⟨rfl, hb1⟩
    have B1 := B0.trans (hb1.mono B0.size)
    go_wp2_with fail
    go_ret2
    rw [HG.out]
    exact ResN.no B1
  rw [hq] at C
  have HC := Lib.hid C
  have hl6 : len ≤ 1048570 := by
    have h1 := H.out.len
    have h2 : ts.length ≤ 6 := by unfold dataOk at hq; rw [Bool.and_eq_true, decide_eq_true_eq] at hq; exact hq.1
    omega
  have HD : Hid (dataWithout ts s (t0, t1, t2) = (match withoutT (graphAt ts s) (t0, t1, t2) with
    | none => none
    | some g => some (putNam ts (s, g)))) := Lib.hid (by unfold dataWithout; rw [if_pos hq])
  have HGS := Lib.hid (graphAt_sm hs s)
  have HWM : Hid (∀ g, withoutT (graphAt ts s) (t0, t1, t2) = some g → ∀ u ∈ g, u.1.size + u.2.1.size + u.2.2.size ≤ 1048576) := Lib.hid (fun g hg u hu => by
    exact HGS.out u (withoutT_mem hg u hu))
  have hgsm : Sm (graphAt ts s) := fun u hu => by have := HGS.out u hu; omega
  have hgall : ∀ u ∈ graphAt ts s, u.1.size ≤ maxLen ∧ u.2.1.size ≤ maxLen ∧ u.2.2.size ≤ maxLen := fun u hu => by have := HGS.out u hu; unfold maxLen; omega
  have HGA := Lib.hid hgall
  have HGM := Lib.hid hgsm
  clear C hq hs X0 hgsm hgall
  go_enter Tryz.func21, Tryz.ntmps21
  go_wp2_with fail
  refine HC.out.mono ?_
  rintro e w1 ⟨rfl, hb1⟩
  have B1 := B0.trans (hb1.mono B0.size)
  have X1 := HX0.out.next hb1
  clear hb1
  go_wp2_with fail
  refine wp_region_held_drew (S := (fun w' => w'.cell? ⟨w.heap.size, 0, none⟩ = some (.string t0) ∧ w'.cell? ⟨w.heap.size, 1, none⟩ = some (.string t1) ∧ w'.cell? ⟨w.heap.size, 2, none⟩ = some (.string t2))) (by kernel_rfl) ?_ (fun hHeld => ?_)
  · exact X1.drew.cells
  refine wpAnyH_take (i := 0) (v := ?_) rfl (by kernel_rfl) (by kernel_rfl) (by kernel_rfl) (fun _ _ _ h => h) (Or.inl ⟨by kernel_rfl, ?_⟩) (by assumption) ?_
  rotate_left
  · intro w hSw; (try dsimp only at hSw); go_simp; try with_reducible rfl
  refine wpAnyH_take (i := 1) (v := ?_) rfl (by kernel_rfl) (by kernel_rfl) (by kernel_rfl) (fun _ _ _ h => h) (Or.inl ⟨by kernel_rfl, ?_⟩) (by assumption) ?_
  rotate_left
  · intro w hSw; (try dsimp only at hSw); go_simp; try with_reducible rfl
  refine wpAnyH_take (i := 3) (v := ?_) rfl (by kernel_rfl) (by kernel_rfl) (by kernel_rfl) (fun _ _ _ h => h) (Or.inl ⟨by kernel_rfl, ?_⟩) (by assumption) ?_
  rotate_left
  · intro w hSw; (try dsimp only at hSw); go_simp; try with_reducible rfl
  refine wpAnyH_ready (rs := [2]) (by kernel_rfl) (by simp) ?_
  refine AllReadyH.cons rfl (fun K hK => ?_) AllReadyH.nil
  go_simp
  refine (specGraphAt a len cap ts s _ (H.out.next (by exact B1.drew)) htot).mono ?_
  rintro e w3 ⟨gv, rfl, og, hb3⟩
  have B3 : Below w.heap.size w w3 := B1.drew.trans (hb3.mono B1.drew.size)
  have X3 := X1.drew.next hb3
  obtain ⟨ga, gc, rfl, gi, gp⟩ := OwnT.plain og HGA.out
  have HGI := Lib.hid (And.intro gi gp)
  clear og gi gp hb3
  go_wp2_with fail
  clear hHeld
  refine hK.out _ _ ?_ (fun hHeld => ?_)
  · exact X3.cells
  clear hK K
  refine wpAnyH_ready (rs := [4]) (by kernel_rfl) (by simp) ?_
  refine AllReadyH.cons rfl (fun K hK => ?_) AllReadyH.nil
  go_simp
  refine (specWithout ga _ gc _ t0 t1 t2 w3 HGI.out.1 HGI.out.2 HGM.out (by omega) (by omega) (by omega)).mono ?_
  rintro e w4 ⟨rv, rfl, ow, hb4⟩
  have B4 := B3.trans (hb4.mono B3.size)
  have X4 := X3.next hb4
  have OW := Lib.hid (own_base ow B3.size)
  clear ow hb4
  go_wp2_with fail
  clear hHeld
  refine hK.out _ _ ?_ (fun hHeld => ?_)
  · exact X4.cells
  clear hK K
  refine wpAnyH_take (i := 5) (v := ?_) rfl (by kernel_rfl) (by kernel_rfl) (by kernel_rfl) (fun _ _ _ h => h) (Or.inl ⟨by kernel_rfl, ?_⟩) (by assumption) ?_
  rotate_left
  · intro w hSw; (try dsimp only at hSw); go_simp; try with_reducible rfl
  refine wpAnyH_take (i := 6) (v := ?_) rfl (by kernel_rfl) (by kernel_rfl) (by kernel_rfl) (fun _ _ _ h => h) (Or.inl ⟨by kernel_rfl, ?_⟩) (by assumption) ?_
  rotate_left
  · intro w hSw; (try dsimp only at hSw); go_simp; try with_reducible rfl
  refine wpAnyH_take (i := 7) (v := ?_) rfl (by kernel_rfl) (by kernel_rfl) (by kernel_rfl) (fun _ _ _ h => h) (Or.inl ⟨by kernel_rfl, ?_⟩) (by assumption) ?_
  rotate_left
  · intro w hSw; (try dsimp only at hSw); go_simp; try with_reducible rfl
  refine wpAnyH_take (i := 8) (v := ?_) rfl (by kernel_rfl) (by kernel_rfl) (by kernel_rfl) (fun _ _ _ h => h) (Or.inl ⟨by kernel_rfl, ?_⟩) (by assumption) ?_
  rotate_left
  · intro w hSw; (try dsimp only at hSw); go_simp; try with_reducible rfl
  refine wpAnyH_take (i := 9) (v := ?_) rfl (by kernel_rfl) (by kernel_rfl) (by kernel_rfl) (fun _ _ _ h => h) (Or.inl ⟨by kernel_rfl, ?_⟩) (by assumption) ?_
  rotate_left
  · intro w hSw; (try dsimp only at hSw); go_simp; try with_reducible rfl
  refine wpAnyH_done (by kernel_rfl) ?_ _
  try simp only [Act.put, List.setIfInBounds_toArray, List.set_cons_zero, List.set_cons_succ, List.getElem_toArray, List.getElem_cons_zero, List.getElem_cons_succ]
  clear hHeld
  cases hw : withoutT (graphAt ts s) (t0, t1, t2) with
  | none =>
    have HG : Hid (dataWithout ts s (t0, t1, t2) = none) := Lib.hid (by rw [HD.out, hw])
    rw [hw] at OW
    simp only [Option.isSome_none]
    go_wp2_with fail
    go_ret2
    rw [HG.out]
    exact ResN.no B4
  | some g =>
    have hsm2 := HWM.out g hw
    have HG : Hid (dataWithout ts s (t0, t1, t2) = some (putNam ts (s, g))) := Lib.hid (by rw [HD.out, hw])
    rw [hw] at OW
    simp only [Option.getD_some] at OW
    simp only [Option.isSome_some]
    obtain ⟨ra, rc, hre⟩ := own_slice_len OW.out
    subst hre
    have HPS : Hid (SmN (putNam ts (s, g))) := Lib.hid (putNam_sm HS.out ⟨hsz, hsm2⟩)
    have PP := Lib.hid (specPutNam w.heap.size a len cap ts s (.slice ra g.length rc) g w4 (H.out.next B4) OW.out B4.size hl6 htot)
    generalize putNam ts (s, g) = P at HG HPS PP
    clear hw hsm2 OW HD HWM HGS HGA HGM HGI X4
    go_wp2_with fail
    refine PP.out.mono ?_
    rintro e w5 ⟨pv, rfl, op, hb5⟩
    have B5 := B4.trans (hb5.mono B4.size)
    have OP := Lib.hid op
    clear op hb5 PP
    go_wp2_with fail
    go_ret2
    rw [HG.out]
    exact ResN.yes OP.out B5
end Go.Proofs.YtnjphlaohihbaaaGreat
