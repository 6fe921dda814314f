/- What is read of a graph's text: plain functions. -/
import Derived.Test.YtapcbhpkbdlinaaRise
import Derived.Test.YtapcbhpkbdlinaaReadM
import Derived.Test.YtapcbhpkbdlinaaGraph
import Derived.Test.YtapcbhpkbdlinaaRead
import Derived.Test.YtapcbhpkbdlinaaBox
import Derived.Test.YtapcbhpkbdlinaaRead2
namespace Go.Proofs.Ytapcbhpkbdlinaa
def triOf (t : List UInt8 × List UInt8 × List UInt8) : Tri3 := (bs t.1, bs t.2.1, bs t.2.2)
/-- Line by line, as long as there is one; the first number is a bound on how many. -/
def readG : Nat → List UInt8 → Option (List Tri3)
  | 0, _ => some []
  | n + 1, l => if l = [] then some [] else match readT (cutL l 10).1 with
    | some t => if (cutL l 10).2.2 = true then (readG n (cutL l 10).2.1).map (triOf t :: ·) else none
    | none => none
theorem readG_succ (n : Nat) (l : List UInt8) : readG (n + 1) l = if l = [] then some [] else match readT (cutL l 10).1 with
    | some t => if (cutL l 10).2.2 = true then (readG n (cutL l 10).2.1).map (triOf t :: ·) else none
    | none => none := rfl
theorem cut_less {l : List UInt8} (h : (cutL l 10).2.2 = true) : (cutL l 10).2.1.length + (cutL l 10).1.length + 1 = l.length := by
  have := congrArg List.length (cutL_join 10 l h)
  simp only [List.length_append, List.length_cons] at this
  omega
theorem readG_enough : ∀ (n m : Nat) (l : List UInt8), l.length ≤ n → l.length ≤ m → readG n l = readG m l := by
  intro n
  induction n with
  | zero =>
    intro m l hn _
    obtain rfl : l = [] := List.length_eq_zero_iff.1 (by omega)
    cases m <;> simp [readG]
  | succ n ih =>
    intro m l hn hm
    cases m with
    | zero =>
      obtain rfl : l = [] := List.length_eq_zero_iff.1 (by omega)
      simp [readG]
    | succ m =>
      unfold readG
      by_cases he : l = []
      · simp [he]
      · rw [if_neg he, if_neg he]
        cases readT (cutL l 10).1 with
        | none => rfl
        | some t =>
          by_cases hc : (cutL l 10).2.2 = true
          · have := cut_less hc
            simp only [hc, if_true]
            rw [ih m _ (by omega) (by omega)]
          · simp only [if_neg hc]
def fin (l : List UInt8) : Option (List Tri3) := readG l.length l
theorem fin_nil : fin [] = some [] := rfl
theorem fin_bad {l : List UInt8} (h : l ≠ []) (hr : readT (cutL l 10).1 = none ∨ (cutL l 10).2.2 = false) : fin l = none := by
  unfold fin
  cases l with
  | nil => exact absurd rfl h
  | cons x r =>
    rw [List.length_cons]
    unfold readG
    rw [if_neg h]
    rcases hr with hr | hr
    · rw [hr]
    · cases readT (cutL (x :: r) 10).1 with
      | none => rfl
      | some t => simp [hr]
theorem fin_next {l : List UInt8} {t : List UInt8 × List UInt8 × List UInt8} (h : l ≠ []) (hr : readT (cutL l 10).1 = some t) (hc : (cutL l 10).2.2 = true) : fin l = (fin (cutL l 10).2.1).map (triOf t :: ·) := by
  have hl := cut_less hc
  unfold fin
  cases l with
  | nil => exact absurd rfl h
  | cons x r =>
    rw [List.length_cons] at hl ⊢
    rw [readG_succ, if_neg h, hr]
    simp only [hc, if_true]
    rw [readG_enough r.length _ _ (by omega) (Nat.le_refl _)]
/-- All of it read, where acc is read already and l is to come. -/
def Comes (all l : List UInt8) (acc : List Tri3) : Prop := fin all = (fin l).map (acc ++ ·)
theorem Comes.start (l : List UInt8) : Comes l l [] := by unfold Comes; cases fin l <;> rfl
theorem Comes.bad {all l : List UInt8} {acc : List Tri3} (h : Comes all l acc) (hn : l ≠ []) (hr : readT (cutL l 10).1 = none ∨ (cutL l 10).2.2 = false) : fin all = none := by
  unfold Comes at h; rw [h, fin_bad hn hr]; rfl
theorem Comes.next {all l : List UInt8} {acc : List Tri3} {t : List UInt8 × List UInt8 × List UInt8} (h : Comes all l acc) (hn : l ≠ []) (hr : readT (cutL l 10).1 = some t) (hc : (cutL l 10).2.2 = true) : Comes all (cutL l 10).2.1 (acc ++ [triOf t]) := by
  unfold Comes at *
  rw [h, fin_next hn hr hc]
  cases fin (cutL l 10).2.1 <;> simp
theorem Comes.done {all : List UInt8} {acc : List Tri3} (h : Comes all [] acc) : fin all = some acc := by
  unfold Comes at h; rw [h, fin_nil]; simp
theorem Comes.long {all l : List UInt8} {acc : List Tri3} (h : Comes all l acc) {ts : List Tri3} (hf : fin all = some ts) : acc.length ≤ ts.length := by
  unfold Comes at h
  rw [h] at hf
  cases hl : fin l with
  | none => rw [hl] at hf; simp at hf
  | some r =>
    rw [hl] at hf
    simp only [Option.map_some, Option.some.injEq] at hf
    rw [← hf, List.length_append]; omega
def resG (l : List UInt8) : Option (List Tri3) := match fin l with
  | some ts => if graphOk ts then some ts else none
  | none => none
theorem resG_none {l : List UInt8} (h : fin l = none) : resG l = none := by unfold resG; rw [h]
theorem resG_some {l : List UInt8} {ts : List Tri3} (h : fin l = some ts) : resG l = if graphOk ts then some ts else none := by unfold resG; rw [h]
def SmR (n : Nat) (ts : List Tri3) : Prop := ∀ t ∈ ts, t.1.size ≤ n ∧ t.2.1.size ≤ n ∧ t.2.2.size ≤ n
theorem SmR.snoc {n : Nat} {ts : List Tri3} {l : List UInt8} {t : List UInt8 × List UInt8 × List UInt8} (h : SmR n ts) (hr : readT l = some t) (hl : l.length ≤ n) : SmR n (ts ++ [triOf t]) := by
  intro u hu
  obtain ⟨x, y, z⟩ := t
  have := readT_len hr
  rcases List.mem_append.1 hu with hu | hu
  · exact h u hu
  · obtain rfl : u = triOf (x, y, z) := by simpa using hu
    unfold triOf
    simp only [bs_size]
    omega
open Go.RowKit Go.WideShapes
theorem own3_snoc {B : Nat} {w : World} {v : Value} {ts : List Tri3} {t : Tri3} (h : w.ownsRow B 23 3 v (ts.length + 1) (flat ts ++ [.string t.1, .string t.2.1, .string t.2.2])) : OwnT B w v (ts ++ [t]) := by
  unfold OwnT; rw [flat_snoc, List.length_append]; exact h
theorem three_cell {w : World} {u v z : Value} {e : Nat} : ∀ (j : Nat) (x : Value), [u, v, z][j]? = some x → (w.alloc (.cells #[u, v, z] e)).cell? ((⟨w.heap.size, 0, none⟩ : Addr).add j) = some x := by
  intro j x hj
  match j, hj with
  | 0, hj => simp at hj; subst hj; simp [Addr.add]
  | 1, hj => simp at hj; subst hj; simp [Addr.add]
  | 2, hj => simp at hj; subst hj; simp [Addr.add]
theorem own_next {B : Nat} {w w' : World} {v : Value} {ts : List Tri3} (h : OwnT B w v ts) (hb : w.grownBy w' none) : OwnT B w' v ts := by
  refine World.ownsRow.kept h hb ?_
  cases v.ownBlock
  · exact .inl rfl
  · exact .inr (by simp)
theorem own_base {B B' : Nat} {w : World} {v : Value} {ts : List Tri3} (h : OwnT B w v ts) (hb : B' ≤ B) : OwnT B' w v ts := by
  refine ⟨h.1, h.2.imp id ?_⟩
  rintro ⟨g, c, cur, h1, h2, h3⟩
  exact ⟨g, c, cur, h1, by omega, h3⟩
def strOf : Value → ByteArray
  | .string s => s
  | _ => ⟨#[]⟩
def ReadPost (l : List UInt8) (w : World) (e : Ending) (w' : World) : Prop :=
  (∃ v ts, resG l = some ts ∧ graphOk ts = true ∧ SmR 1048576 ts ∧ e = .returned (.tuple #[v, .bool true]) ∧ OwnT w.heap.size w' v ts ∧ Below w.heap.size w w') ∨
  (resG l = none ∧ e = .returned (.tuple #[.slice none 0 0, .bool false]) ∧ Below w.heap.size w w')
set_option maxRecDepth 100000 in
set_option maxHeartbeats 1600000 in
theorem implReadGraph (s : ByteArray) (hs : s.size ≤ 1048576) (w : World) :
    Calls Try.prog 19 #[.string s] w (ReadPost s.data.toList w) := by
  obtain ⟨i0, hi, hz0, hz1, hz2⟩ := info_parts infoTri
  have O0 := World.ownsRow_lit (size := 3) (e := 23) w #[] 0 (Nat.le_refl _) (by decide) rfl
  have B0 : Below w.heap.size w _ := (Below.refl w.heap.size w).alloc (Nat.le_refl _) (.cells #[] 23)
  go_enter Try.func19, Try.ntmps19
  go_wp2_with fail
  go_loopw [0, 4] (fun r v wr => ∃ (R : ByteArray) (acc : List Tri3), r = .string R ∧ acc.length + R.size ≤ s.size ∧ Hid (OwnT w.heap.size wr v acc) ∧ Hid (Comes s.data.toList R.data.toList acc) ∧ Hid (SmR s.size acc) ∧ Below w.heap.size w wr) (fun r _ _ => (strOf r).size)
  case atStart => exact ⟨s, [], rfl, by simp, Lib.hid O0, Lib.hid (Comes.start _), Lib.hid (by intro t ht; simp at ht), B0⟩
  case round =>
    obtain ⟨R, acc, rfl, hlen, hown, hcm, hsr, hnx⟩ := hrel
    by_cases he : R = ⟨#[]⟩
    · subst he
      have HF : Hid (fin s.data.toList = some acc) := Lib.hid hcm.out.done
      obtain ⟨a, cap, rfl, ia⟩ := hown.out.is (fun t ht => by have := hsr.out t ht; unfold maxLen; omega)
      have G := implGraphOk a acc.length cap acc wr ia (fun t ht => by have := hsr.out t ht; omega)
      have HO := Lib.hid hown.out
      have HS : Hid (SmR 1048576 acc) := Lib.hid (fun t ht => by have := hsr.out t ht; omega)
      clear ia
      cases hg : graphOk acc
      · rw [hg] at G
        have D := Lib.hid G
        have HR : Hid (resG s.data.toList = none) := Lib.hid (by rw [resG_some HF.out, hg]; rfl)
        clear G hown hsr hcm hg
        go_wp2_with fail
        refine D.out.mono ?_
        rintro e w1 ⟨rfl, hb1⟩
        go_wp2_with fail
        go_ret2
        exact .inr ⟨HR.out, rfl, hnx.trans (hb1.mono hnx.size)⟩
      · rw [hg] at G
        have D := Lib.hid G
        have HR : Hid (resG s.data.toList = some acc) := Lib.hid (by rw [resG_some HF.out, hg]; rfl)
        have HG := Lib.hid hg
        clear G hown hsr hcm hg
        go_wp2_with fail
        refine D.out.mono ?_
        rintro e w1 ⟨rfl, hb1⟩
        go_wp2_with fail
        go_ret2
        exact .inl ⟨_, acc, HR.out, HG.out, HS.out, rfl, own_next HO.out (grown_of_below hb1), hnx.trans (hb1.mono hnx.size)⟩
    · have hRn : R.data.toList ≠ [] := fun h => he (data_inj h)
      have e1 : R.toList.isEmpty = false := by rw [ByteArray.toList_eq, List.isEmpty_eq_false_iff]; exact hRn
      have C := strCut R 10 (by omega)
      obtain ⟨L1, hL1⟩ : ∃ L1, bs (cutL R.data.toList 10).1 = L1 := ⟨_, rfl⟩
      obtain ⟨L2, hL2⟩ : ∃ L2, bs (cutL R.data.toList 10).2.1 = L2 := ⟨_, rfl⟩
      have hcl := cutL_len R.data.toList 10
      rw [size_len] at hcl
      have h1s : L1.size ≤ R.size := by rw [← hL1, bs_size]; exact hcl.1
      have h1l : L1.data.toList = (cutL R.data.toList 10).1 := by rw [← hL1, bs_toList]
      have h2l : L2.data.toList = (cutL R.data.toList 10).2.1 := by rw [← hL2, bs_toList]
      rw [hL1, hL2] at C
      have T := implRead L1 (by omega)
      rw [h1l] at T
      clear hL1 hL2 he
      rcases hr : readT (cutL R.data.toList 10).1 with _ | t
      · have HR : Hid (resG s.data.toList = none) := Lib.hid (resG_none (hcm.out.bad hRn (.inl hr)))
        rw [hr] at T
        have E : Hid (∀ w, Calls Try.prog 16 #[.string L1] w fun e w' => e = .returned (.tuple #[.agg #[.string (bs []), .string (bs []), .string (bs [])], .bool false]) ∧ Below w.heap.size w w') := Lib.hid T
        generalize (cutL R.data.toList 10).2.2 = b at *
        have D := Lib.hid C
        clear T C hown hcm hsr hr h1l h2l
        cases b
        all_goals
          go_wp2_with fail
          refine (D.out _).mono ?_
          rintro e w1 ⟨rfl, hb1⟩
          go_wp2_with fail
          refine (E.out _).mono ?_
          rintro e w2 ⟨rfl, hb2⟩
          have B2 := (hnx.trans (hb1.mono hnx.size)).trans (hb2.mono (hnx.trans (hb1.mono hnx.size)).size)
          have B3 := B2.alloc B2.size (.cells #[.string (bs []), .string (bs []), .string (bs [])] 23)
          clear hb1 hb2
          go_wp2_with fail
          go_ret2
          exact .inr ⟨HR.out, rfl, B3⟩
      · obtain ⟨x, y, z⟩ := t
        rw [hr] at T
        have E : Hid (∀ w, Calls Try.prog 16 #[.string L1] w fun e w' => e = .returned (.tuple #[.agg #[.string (bs x), .string (bs y), .string (bs z)], .bool true]) ∧ Below w.heap.size w w') := Lib.hid T
        cases hb : (cutL R.data.toList 10).2.2
        · have HR : Hid (resG s.data.toList = none) := Lib.hid (resG_none (hcm.out.bad hRn (.inr hb)))
          rw [hb] at C
          have D := Lib.hid C
          clear T C hown hcm hsr hr h1l h2l hb
          go_wp2_with fail
          refine (D.out _).mono ?_
          rintro e w1 ⟨rfl, hb1⟩
          go_wp2_with fail
          refine (E.out _).mono ?_
          rintro e w2 ⟨rfl, hb2⟩
          have B2 := (hnx.trans (hb1.mono hnx.size)).trans (hb2.mono (hnx.trans (hb1.mono hnx.size)).size)
          have B3 := B2.alloc B2.size (.cells #[.string (bs x), .string (bs y), .string (bs z)] 23)
          clear hb1 hb2
          go_wp2_with fail
          go_ret2
          exact .inr ⟨HR.out, rfl, B3⟩
        · have hc3 := cut_less hb
          rw [size_len, ← h2l, size_len] at hc3
          have HC : Hid (Comes s.data.toList L2.data.toList (acc ++ [triOf (x, y, z)])) := Lib.hid (by rw [h2l]; exact hcm.out.next hRn hr hb)
          have HS : Hid (SmR s.size (acc ++ [triOf (x, y, z)])) := Lib.hid (hsr.out.snoc hr (by rw [← h1l, size_len]; omega))
          rw [hb] at C
          have D := Lib.hid C
          clear T C hcm hsr hr h1l h2l hb
          go_wp2_with fail
          refine (D.out _).mono ?_
          rintro e w1 ⟨rfl, hb1⟩
          go_wp2_with fail
          refine (E.out _).mono ?_
          rintro e w2 ⟨rfl, hb2⟩
          have O2 := own_next (own_next hown.out (grown_of_below hb1)) (grown_of_below hb2)
          have B2 := (hnx.trans (hb1.mono hnx.size)).trans (hb2.mono (hnx.trans (hb1.mono hnx.size)).size)
          have B3 := B2.alloc B2.size (.cells #[.string (bs x), .string (bs y), .string (bs z)] 23)
          have O3 := O2.alloc (.cells #[.string (bs x), .string (bs y), .string (bs z)] 23)
          clear hb1 hb2 hown O2
          have hcell : ∀ (j : Nat) (u : Value), [Value.string (bs x), .string (bs y), .string (bs z)][j]? = some u → ((w2.alloc (.cells #[.string (bs x), .string (bs y), .string (bs z)] 23)).alloc (.cells #[.string (bs x), .string (bs y), .string (bs z)] 23)).cell? ((⟨w2.heap.size + 1, 0, none⟩ : Addr).add j) = some u := by
            intro j u hu
            have := three_cell (w := w2.alloc (.cells #[.string (bs x), .string (bs y), .string (bs z)] 23)) (e := 23) j u hu
            simpa using this
          go_wp2_with (at_builtin; refine wpList_append_own _ rfl _ _ 28 rfl w.heap.size 23 i0 (.agg #[.string ⟨#[]⟩, .string ⟨#[]⟩, .string ⟨#[]⟩]) 3 48 Try.underlying28 hi hz0 hz1 hz2 rfl (by decide) _ _ _ rfl (O3.alloc _) ⟨w2.heap.size + 1, 0, none⟩ 1 1 [.string (bs x), .string (bs y), .string (bs z)] rfl rfl ?d1 ?d2 ?d3 ?d4 ?d5 ?_)
          case d1 => exact hcell
          case d2 => intro u hu; simp at hu; rcases hu with rfl | rfl | rfl <;> rfl
          case d3 => unfold maxLen; omega
          case d4 => omega
          case d5 => have := B2.size; simp; omega
          intro v' w3 hown3 hg3 _
          have O4 := own3_snoc (t := triOf (x, y, z)) hown3
          have B4 : Below w.heap.size w w3 := (B3.alloc B3.size (.cells #[.string (bs x), .string (bs y), .string (bs z)] 23)).grown hg3 (by have := B2.size; simp; omega) (fun j hj => (O3.lt j hj).1)
          clear hown3 hg3 O3 B3 hcell
          go_wp2_with fail
          go_roundw
          case rel => exact ⟨L2, acc ++ [triOf (x, y, z)], rfl, by rw [List.length_append, List.length_singleton]; omega, Lib.hid O4, HC, HS, B4⟩
          case measure => simp [strOf]; omega
open Go.RowKit Go.WideShapes
theorem long_none {all l : List UInt8} {acc : List Tri3} (h : Comes all l acc) (hl : 80 < acc.length) : resG all = none := by
  cases hf : fin all with
  | none => exact resG_none hf
  | some ts =>
    have := h.long hf
    rw [resG_some hf]
    unfold graphOk
    rw [decide_eq_false (by omega)]
    rfl
set_option maxRecDepth 100000 in
set_option maxHeartbeats 1600000 in
theorem specReadGraph (s : ByteArray) (hs : s.size ≤ 1048576) (w : World) :
    Calls Try.prog 18 #[.string s] w (ReadPost s.data.toList w) := by
  obtain ⟨i0, hi, hz0, hz1, hz2⟩ := info_parts infoTri
  have O0 := World.ownsRow_lit (size := 3) (e := 23) w #[] 0 (Nat.le_refl _) (by decide) rfl
  have B0 : Below w.heap.size w _ := (Below.refl w.heap.size w).alloc (Nat.le_refl _) (.cells #[] 23)
  go_enter Try.func18, Try.ntmps18
  go_wp2_with fail
  go_loopw [4, 5] (fun v r wr => ∃ (R : ByteArray) (acc : List Tri3), r = .string R ∧ acc.length + R.size ≤ s.size ∧ Hid (OwnT w.heap.size wr v acc) ∧ Hid (Comes s.data.toList R.data.toList acc) ∧ Hid (SmR s.size acc) ∧ Below w.heap.size w wr) (fun _ r _ => (strOf r).size)
  case atStart => exact ⟨s, [], rfl, by simp, Lib.hid O0, Lib.hid (Comes.start _), Lib.hid (by intro t ht; simp at ht), B0⟩
  case round =>
    obtain ⟨R, acc, rfl, hlen, hown, hcm, hsr, hnx⟩ := hrel
    obtain ⟨a, cap, rfl, ia⟩ := hown.out.is (fun t ht => by have := hsr.out t ht; unfold maxLen; omega)
    by_cases he : R = ⟨#[]⟩
    · subst he
      have HF : Hid (fin s.data.toList = some acc) := Lib.hid hcm.out.done
      have G := specGraphOk a acc.length cap acc wr ia (fun t ht => by have := hsr.out t ht; omega)
      have HO := Lib.hid hown.out
      have HS : Hid (SmR 1048576 acc) := Lib.hid (fun t ht => by have := hsr.out t ht; omega)
      clear ia
      cases hg : graphOk acc
      · rw [hg] at G
        have D := Lib.hid G
        have HR : Hid (resG s.data.toList = none) := Lib.hid (by rw [resG_some HF.out, hg]; rfl)
        clear G hown hsr hcm hg
        go_wp2_with fail
        refine D.out.mono ?_
        rintro e w1 ⟨rfl, hb1⟩
        go_wp2_with fail
        go_ret2
        exact .inr ⟨HR.out, rfl, hnx.trans (hb1.mono hnx.size)⟩
      · rw [hg] at G
        have D := Lib.hid G
        have HR : Hid (resG s.data.toList = some acc) := Lib.hid (by rw [resG_some HF.out, hg]; rfl)
        have HG := Lib.hid hg
        clear G hown hsr hcm hg
        go_wp2_with fail
        refine D.out.mono ?_
        rintro e w1 ⟨rfl, hb1⟩
        go_wp2_with fail
        go_ret2
        exact .inl ⟨_, acc, HR.out, HG.out, HS.out, rfl, own_next HO.out (grown_of_below hb1), hnx.trans (hb1.mono hnx.size)⟩
    · have hRn : R.data.toList ≠ [] := fun h => he (data_inj h)
      have e1 : R.toList.isEmpty = false := by rw [ByteArray.toList_eq, List.isEmpty_eq_false_iff]; exact hRn
      by_cases g80 : ¬ (acc.length : Int) ≤ 80
      · have HR : Hid (resG s.data.toList = none) := Lib.hid (long_none hcm.out (by omega))
        have G := specGraphOk a acc.length cap acc wr ia (fun t ht => by have := hsr.out t ht; omega)
        rw [show graphOk acc = false from by unfold graphOk; rw [decide_eq_false (by omega)]; rfl] at G
        have D := Lib.hid G
        clear G hown hsr hcm ia he
        go_wp2_with fail
        refine D.out.mono ?_
        rintro e w1 ⟨rfl, hb1⟩
        go_wp2_with fail
        go_ret2
        exact .inr ⟨HR.out, rfl, hnx.trans (hb1.mono hnx.size)⟩
      have g80 : (acc.length : Int) ≤ 80 := by omega
      clear ia
      have C := specCut R 10 (by omega)
      obtain ⟨L1, hL1⟩ : ∃ L1, bs (cutL R.data.toList 10).1 = L1 := ⟨_, rfl⟩
      obtain ⟨L2, hL2⟩ : ∃ L2, bs (cutL R.data.toList 10).2.1 = L2 := ⟨_, rfl⟩
      have hcl := cutL_len R.data.toList 10
      rw [size_len] at hcl
      have h1s : L1.size ≤ R.size := by rw [← hL1, bs_size]; exact hcl.1
      have h1l : L1.data.toList = (cutL R.data.toList 10).1 := by rw [← hL1, bs_toList]
      have h2l : L2.data.toList = (cutL R.data.toList 10).2.1 := by rw [← hL2, bs_toList]
      rw [hL1, hL2] at C
      have T := specRead L1 (by omega)
      rw [h1l] at T
      clear hL1 hL2 he
      rcases hr : readT (cutL R.data.toList 10).1 with _ | t
      · have HR : Hid (resG s.data.toList = none) := Lib.hid (resG_none (hcm.out.bad hRn (.inl hr)))
        rw [hr] at T
        have E : Hid (∀ w, Calls Try.prog 15 #[.string L1] w fun e w' => e = .returned (.tuple #[.agg #[.string (bs []), .string (bs []), .string (bs [])], .bool false]) ∧ Below w.heap.size w w') := Lib.hid T
        generalize (cutL R.data.toList 10).2.2 = b at *
        have D := Lib.hid C
        clear T C hown hcm hsr hr h1l h2l
        cases b
        all_goals
          go_wp2_with fail
          refine (D.out _).mono ?_
          rintro e w1 ⟨rfl, hb1⟩
          go_wp2_with fail
          refine (E.out _).mono ?_
          rintro e w2 ⟨rfl, hb2⟩
          have B2 := (hnx.trans (hb1.mono hnx.size)).trans (hb2.mono (hnx.trans (hb1.mono hnx.size)).size)
          have B3 := B2.alloc B2.size (.cells #[.string (bs []), .string (bs []), .string (bs [])] 23)
          clear hb1 hb2
          go_wp2_with fail
          go_ret2
          exact .inr ⟨HR.out, rfl, B3⟩
      · obtain ⟨x, y, z⟩ := t
        rw [hr] at T
        have E : Hid (∀ w, Calls Try.prog 15 #[.string L1] w fun e w' => e = .returned (.tuple #[.agg #[.string (bs x), .string (bs y), .string (bs z)], .bool true]) ∧ Below w.heap.size w w') := Lib.hid T
        cases hb : (cutL R.data.toList 10).2.2
        · have HR : Hid (resG s.data.toList = none) := Lib.hid (resG_none (hcm.out.bad hRn (.inr hb)))
          rw [hb] at C
          have D := Lib.hid C
          clear T C hown hcm hsr hr h1l h2l hb
          go_wp2_with fail
          refine (D.out _).mono ?_
          rintro e w1 ⟨rfl, hb1⟩
          go_wp2_with fail
          refine (E.out _).mono ?_
          rintro e w2 ⟨rfl, hb2⟩
          have B2 := (hnx.trans (hb1.mono hnx.size)).trans (hb2.mono (hnx.trans (hb1.mono hnx.size)).size)
          have B3 := B2.alloc B2.size (.cells #[.string (bs x), .string (bs y), .string (bs z)] 23)
          clear hb1 hb2
          go_wp2_with fail
          go_ret2
          exact .inr ⟨HR.out, rfl, B3⟩
        · have hc3 := cut_less hb
          rw [size_len, ← h2l, size_len] at hc3
          have HC : Hid (Comes s.data.toList L2.data.toList (acc ++ [triOf (x, y, z)])) := Lib.hid (by rw [h2l]; exact hcm.out.next hRn hr hb)
          have HS : Hid (SmR s.size (acc ++ [triOf (x, y, z)])) := Lib.hid (hsr.out.snoc hr (by rw [← h1l, size_len]; omega))
          rw [hb] at C
          have D := Lib.hid C
          clear T C hcm hsr hr h1l h2l hb
          go_wp2_with fail
          refine (D.out _).mono ?_
          rintro e w1 ⟨rfl, hb1⟩
          go_wp2_with fail
          refine (E.out _).mono ?_
          rintro e w2 ⟨rfl, hb2⟩
          have O2 := own_next (own_next hown.out (grown_of_below hb1)) (grown_of_below hb2)
          have B2 := (hnx.trans (hb1.mono hnx.size)).trans (hb2.mono (hnx.trans (hb1.mono hnx.size)).size)
          have B3 := B2.alloc B2.size (.cells #[.string (bs x), .string (bs y), .string (bs z)] 23)
          have O3 := O2.alloc (.cells #[.string (bs x), .string (bs y), .string (bs z)] 23)
          clear hb1 hb2 hown O2
          have hcell : ∀ (j : Nat) (u : Value), [Value.string (bs x), .string (bs y), .string (bs z)][j]? = some u → ((w2.alloc (.cells #[.string (bs x), .string (bs y), .string (bs z)] 23)).alloc (.cells #[.string (bs x), .string (bs y), .string (bs z)] 23)).cell? ((⟨w2.heap.size + 1, 0, none⟩ : Addr).add j) = some u := by
            intro j u hu
            have := three_cell (w := w2.alloc (.cells #[.string (bs x), .string (bs y), .string (bs z)] 23)) (e := 23) j u hu
            simpa using this
          go_wp2_with (at_builtin; refine wpList_append_own _ rfl _ _ 28 rfl w.heap.size 23 i0 (.agg #[.string ⟨#[]⟩, .string ⟨#[]⟩, .string ⟨#[]⟩]) 3 48 Try.underlying28 hi hz0 hz1 hz2 rfl (by decide) _ _ _ rfl (O3.alloc _) ⟨w2.heap.size + 1, 0, none⟩ 1 1 [.string (bs x), .string (bs y), .string (bs z)] rfl rfl ?d1 ?d2 ?d3 ?d4 ?d5 ?_)
          case d1 => exact hcell
          case d2 => intro u hu; simp at hu; rcases hu with rfl | rfl | rfl <;> rfl
          case d3 => unfold maxLen; omega
          case d4 => omega
          case d5 => have := B2.size; simp; omega
          intro v' w3 hown3 hg3 _
          have O4 := own3_snoc (t := triOf (x, y, z)) hown3
          have B4 : Below w.heap.size w w3 := (B3.alloc B3.size (.cells #[.string (bs x), .string (bs y), .string (bs z)] 23)).grown hg3 (by have := B2.size; simp; omega) (fun j hj => (O3.lt j hj).1)
          clear hown3 hg3 O3 B3 hcell
          go_wp2_with fail
          go_roundw
          case rel => exact ⟨L2, acc ++ [triOf (x, y, z)], rfl, by rw [List.length_append, List.length_singleton]; omega, Lib.hid O4, HC, HS, B4⟩
          case measure => simp [strOf]; omega
end Go.Proofs.Ytapcbhpkbdlinaa
