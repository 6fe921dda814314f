/- The exact laws' own copy of a slice of steps, and what it owns. -/
import Derived.Test.YteejpceliodcfaaStepC
namespace Go.Proofs.Yteejpceliodcfaa
open Go.RowKit Go.WideShapes
theorem tot_mem : ∀ {ts : List StepV} {t : StepV}, t ∈ ts → t.2.2.length ≤ tot ts
  | s :: ts, t, h => by
    have e : tot (s :: ts) = s.2.2.length + tot ts := by simp [tot]
    rcases List.mem_cons.1 h with rfl | h
    · omega
    · have := tot_mem h; omega
def flat5 : List StepV → List Value → List Value
  | t :: ts, u :: us => .string t.1.1 :: .string t.1.2.1 :: .string t.1.2.2 :: .int .i64 t.2.1 :: u :: flat5 ts us
  | _, _ => []
theorem flat5_snoc (t : StepV) (u : Value) : ∀ (ts : List StepV) (us : List Value), us.length = ts.length → flat5 (ts ++ [t]) (us ++ [u]) = flat5 ts us ++ [.string t.1.1, .string t.1.2.1, .string t.1.2.2, .int .i64 t.2.1, u]
  | [], [], _ => rfl
  | [], _ :: _, h => by simp at h
  | _ :: _, [], h => by simp at h
  | s :: ts, v :: us, h => by
    have := flat5_snoc t u ts us (by simpa using h)
    simp only [List.cons_append, flat5, this]
theorem flat5_at : ∀ (ts : List StepV) (us : List Value), us.length = ts.length → ∀ (i : Nat) (t : StepV) (u : Value), ts[i]? = some t → us[i]? = some u →
    (flat5 ts us)[i * 5]? = some (.string t.1.1) ∧ (flat5 ts us)[i * 5 + 1]? = some (.string t.1.2.1) ∧ (flat5 ts us)[i * 5 + 2]? = some (.string t.1.2.2) ∧ (flat5 ts us)[i * 5 + 3]? = some (.int .i64 t.2.1) ∧ (flat5 ts us)[i * 5 + 4]? = some u
  | [], _, _, i, t, u, h, _ => by simp at h
  | _ :: _, [], h, _, _, _, _, _ => by simp at h
  | s :: ts, v :: us, h, i, t, u, ht, hu => by
    cases i with
    | zero => simp at ht hu; subst ht hu; exact ⟨rfl, rfl, rfl, rfl, rfl⟩
    | succ n =>
      have := flat5_at ts us (by simpa using h) n t u (by simpa using ht) (by simpa using hu)
      rw [show (n + 1) * 5 = n * 5 + 5 from by omega]
      exact this
theorem set5 {xs l : List Value} {k : Nat} (a b c d e : Value) (h : xs.take (k * 5) = l) (hl : k * 5 + 4 < xs.length) :
    (((((xs.set (k * 5) a).set (k * 5 + 1) b).set (k * 5 + 2) c).set (k * 5 + 3) d).set (k * 5 + 4) e).take ((k + 1) * 5) = l ++ [a, b, c, d, e] := by
  have h1 := setI a h (by omega)
  have h2 := setI b h1 (by simp; omega)
  have h3 := setI c h2 (by simp; omega)
  have h4 := setI d h3 (by simp; omega)
  have h5 := setI e h4 (by simp; omega)
  rw [show (k + 1) * 5 = k * 5 + 1 + 1 + 1 + 1 + 1 from by omega]
  simpa using h5
/-- The numbers that the steps use, each slice in a block of its own, from B on. -/
def Inn (B : Nat) (w : World) (ts : List StepV) (us : List Value) : Prop :=
  us.length = ts.length ∧ (∀ (i : Nat) (u : Value) (t : StepV), us[i]? = some u → ts[i]? = some t → OwnI B w u t.2.2) ∧ us.Pairwise (fun u v => ∀ j, u.ownBlock = some j → v.ownBlock ≠ some j)
theorem Inn.nil (B : Nat) (w : World) : Inn B w [] [] := ⟨rfl, fun i u t h => by simp at h, .nil⟩
theorem Inn.next {B : Nat} {w w' : World} {ts : List StepV} {us : List Value} (h : Inn B w ts us) (hb : Below w.heap.size w w') : Inn B w' ts us := ⟨h.1, fun i u t hu ht => (h.2.1 i u t hu ht).kept hb, h.2.2⟩
theorem Inn.set {B : Nat} {w : World} {ts : List StepV} {us : List Value} (h : Inn B w ts us) {g : Nat} (hg : g < B) (j : Nat) (q : Value) : Inn B (w.setCell ⟨g, j, none⟩ q) ts us := ⟨h.1, fun i u t hu ht => (h.2.1 i u t hu ht).set hg j q, h.2.2⟩
theorem Inn.snoc {B : Nat} {w : World} {C : Nat} {ts : List StepV} {us : List Value} {t : StepV} {u : Value} (h : Inn B w ts us) (hl : ∀ v ∈ us, ∀ j, v.ownBlock = some j → j < C) (hBC : B ≤ C) (ho : OwnI C w u t.2.2) : Inn B w (ts ++ [t]) (us ++ [u]) := by
  obtain ⟨h1, h2, h3⟩ := h
  refine ⟨by simp [h1], fun i v s hv hs => ?_, List.pairwise_append.2 ⟨h3, List.pairwise_singleton _ _, fun v hv v' hv' j hj e => ?_⟩⟩
  · rcases Nat.lt_or_ge i us.length with g | g
    · rw [List.getElem?_append_left g] at hv
      rw [List.getElem?_append_left (by omega)] at hs
      exact h2 i v s hv hs
    · have hi : i = us.length := by
        have := (List.getElem?_eq_some_iff.1 hv).1
        simp at this; omega
      subst hi
      rw [List.getElem?_append_right (Nat.le_refl _)] at hv
      rw [h1, List.getElem?_append_right (Nat.le_refl _)] at hs
      simp at hv hs
      subst hv hs
      exact ho.base hBC
  · obtain rfl : v' = u := by simpa using hv'
    have := hl v hv j hj
    have := (World.ownsRow.lt ho j e).1
    omega
theorem Inn.lt {B : Nat} {w : World} {ts : List StepV} {us : List Value} (h : Inn B w ts us) : ∀ v ∈ us, ∀ j, v.ownBlock = some j → B ≤ j ∧ j < w.heap.size := by
  intro v hv j hj
  obtain ⟨i, hi⟩ := List.mem_iff_getElem?.1 hv
  have hil := (List.getElem?_eq_some_iff.1 hi).1
  have ht : ts[i]? = some (ts[i]'(by have := h.1; omega)) := List.getElem?_eq_getElem _
  exact World.ownsRow.lt (h.2.1 i v _ hi ht) j hj
/-- The call owns the slice that lies in block B, and what its steps use, behind it. -/
def OwnSt (B : Nat) (w : World) (len : Nat) (ts : List StepV) : Prop := ∃ us, w.ownsRow B 117 5 (.slice (some ⟨B, 0, none⟩) len len) len (flat5 ts us) ∧ Inn (B + 1) w ts us
theorem OwnSt.is {B : Nat} {w : World} {len : Nat} {ts : List StepV} (h : OwnSt B w len ts) (hl : ts.length = len) (hm : ∀ t ∈ ts, t.1.1.size ≤ maxLen ∧ t.1.2.1.size ≤ maxLen ∧ t.1.2.2.size ≤ maxLen) : IsSteps w (some ⟨B, 0, none⟩) len len ts := by
  obtain ⟨us, ho, hi⟩ := h
  have h0 := ho
  obtain ⟨hln, hc⟩ := ho
  rcases hc with ⟨e, _⟩ | ⟨g, cap, cur, e, _, _, h1, h2, _⟩
  · cases e
  · simp only [Value.slice.injEq] at e
    obtain ⟨_, _, rfl⟩ := e
    refine .inr ⟨_, rfl, h1, h2, hl, fun i t ht => ?_⟩
    have hil : i < ts.length := (List.getElem?_eq_some_iff.1 ht).1
    have hu : us[i]? = some (us[i]'(by have := hi.1; omega)) := List.getElem?_eq_getElem _
    obtain ⟨f0, f1, f2, f3, f4⟩ := flat5_at ts us hi.1 i t _ ht hu
    have oi := hi.2.1 i _ t hu ht
    obtain ⟨a', c', ev, ii⟩ := oi.is
    rw [ev] at f4
    have e : ∀ j, (⟨B, 0, none⟩ : Addr).add (5 * i + j) = ⟨B, i * 5 + j, none⟩ := fun j => by rw [add_plain, Nat.zero_add, show 5 * i + j = i * 5 + j from by omega]
    have e0 : (⟨B, 0, none⟩ : Addr).add (5 * i) = ⟨B, i * 5, none⟩ := e 0
    obtain ⟨m0, m1, m2⟩ := hm t (List.mem_of_getElem? ht)
    refine ⟨?_, ?_, ?_, ?_, ⟨a', t.2.2.length, c', ?_, ii⟩, m0, m1, m2⟩
    · rw [e0]; exact (h0.cellAt _ (by omega)).trans f0
    · rw [e]; exact (h0.cellAt _ (by omega)).trans f1
    · rw [e]; exact (h0.cellAt _ (by omega)).trans f2
    · rw [e]; exact (h0.cellAt _ (by omega)).trans f3
    · rw [e]; exact (h0.cellAt _ (by omega)).trans f4
theorem OwnSt.kept {B : Nat} {w w' : World} {len : Nat} {ts : List StepV} (h : OwnSt B w len ts) (hb : Below w.heap.size w w') : OwnSt B w' len ts := by
  obtain ⟨us, ho, hi⟩ := h
  exact ⟨us, ho.kept (grown_of_below hb) (.inr (by simp [Value.ownBlock])), hi.next hb⟩
set_option maxRecDepth 100000 in
set_option maxHeartbeats 1600000 in
theorem toSteps (a : Option Addr) (len cap : Nat) (ts : List StepV) (w : World) (h : IsSteps w a len cap ts) (hs : len + tot ts ≤ 1048576) :
    Calls Try.prog 45 #[.slice a len cap] w fun e w' => e = .returned (.slice (some ⟨w.heap.size, 0, none⟩) len len) ∧ OwnSt w.heap.size w' len ts ∧ Below w.heap.size w w' := by
  obtain ⟨i0, hi, hz0, hz1, hz2⟩ := info_parts infoStep
  have HT := Lib.hid h.len
  have H := Lib.hid h
  have HTOT : Hid (∀ t ∈ ts, t.2.2.length ≤ 1048576) := Lib.hid (fun t ht => by
    have := tot_mem ht
    omega)
  clear h
  go_enter Try.func45, Try.ntmps45
  go_wp2_with (at_make; refine wpList_make_full _ rfl _ _ 64 rfl w.heap.size 117 i0 _ 5 Try.underlying64 hi hz0 hz1 .i64 .i64 _ _ len rfl rfl rfl rfl ?c1 ?c2 (Nat.le_refl _) ?_)
  case c1 => rw [hz2]; omega
  case c2 => unfold maxLen; omega
  intro w0 hown0 hg0
  have hb0 : Below w.heap.size w w0 := (Below.refl _ _).grown hg0 (Nat.le_refl _) (by simp)
  clear hg0
  go_wp2_with fail
  go_loopw [4] (fun i wr => ∃ k : Nat, k ≤ len ∧ i = .int .i64 k ∧ (∃ xs us : List Value, wr.ownsRow w.heap.size 117 5 (.slice (some ⟨w.heap.size, 0, none⟩) len len) len xs ∧ Hid (xs.take (k * 5) = flat5 (ts.take k) us ∧ Inn (w.heap.size + 1) wr (ts.take k) us)) ∧ Below w.heap.size w wr) (fun i _ => len - (intOf i).toNat)
  case atStart => exact ⟨0, Nat.zero_le _, rfl, ⟨_, [], hown0, Lib.hid ⟨by simp [flat5], Inn.nil _ _⟩⟩, hb0⟩
  case round =>
    obtain ⟨k, hk, rfl, ⟨xs, us, hown, hx⟩, hnx⟩ := hrel
    have hk6 : (0 : Int) ≤ (k : Int) := by omega
    by_cases hlt : k < len
    · obtain ⟨b, off, rfl, hb, hl, hm, hts, hc⟩ := (H.out.next hnx).cells (by omega)
      have ht : ts[k]? = some ts[k] := List.getElem?_eq_getElem (by omega)
      have HS : Hid (ts.take (k + 1) = ts.take k ++ [ts[k]]) := Lib.hid (List.take_succ_eq_append_getElem (by omega))
      obtain ⟨c0, c1, c2, c3, ⟨a', n, c, c4, hz⟩, m0, m1, m2⟩ := hc k _ ht
      have hzt := HTOT.out _ (List.getElem_mem (by omega : k < ts.length))
      clear m0 m1 m2
      generalize ts[k] = t at c0 c1 c2 c3 hz HS hzt
      obtain ⟨⟨s, p, o⟩, r, zs⟩ := t
      simp only at c0 c1 c2 c3 hz hzt
      have hn : n ≤ 1048576 := by have := hz.len; omega
      have D := Lib.hid (toStep s p o r a' n c zs wr hz hn)
      have hlt2 : (k : Int) < (len : Int) := by omega
      clear ht hts hc hm hz hl
      go_wp2_with fail
      refine D.out.mono ?_
      rintro e wn ⟨u, rfl, ou, hbn⟩
      have B := hnx.trans (hbn.mono hnx.size)
      have O := hown.kept (grown_of_below hbn) (.inr (by simp [Value.ownBlock]))
      have hgt : w.heap.size < wr.heap.size := (World.ownsRow.lt hown w.heap.size (by simp [Value.ownBlock])).2
      have HIN : Hid (Inn (w.heap.size + 1) wn (ts.take k ++ [((s, p, o), r, zs)]) (us ++ [u])) := Lib.hid (Inn.snoc (hx.out.2.next hbn) (fun v hv j hj => (hx.out.2.lt v hv j hj).2) hgt ou)
      obtain ⟨ua, uc, rfl, _⟩ := ou.is
      clear hbn hown hnx c0 c1 c2 c3 c4 D ou
      have hxl : xs.length = len * 5 := O.1
      have e0 : wn.cell? ⟨w.heap.size, k * 5, none⟩ = some (xs[k * 5]'(by omega)) := by rw [O.cellAt _ (by omega), List.getElem?_eq_getElem (by omega)]
      have e1 : wn.cell? ⟨w.heap.size, k * 5 + 1, none⟩ = some (xs[k * 5 + 1]'(by omega)) := by rw [O.cellAt _ (by omega), List.getElem?_eq_getElem (by omega)]
      have e2 : wn.cell? ⟨w.heap.size, k * 5 + 2, none⟩ = some (xs[k * 5 + 2]'(by omega)) := by rw [O.cellAt _ (by omega), List.getElem?_eq_getElem (by omega)]
      have e3 : wn.cell? ⟨w.heap.size, k * 5 + 3, none⟩ = some (xs[k * 5 + 3]'(by omega)) := by rw [O.cellAt _ (by omega), List.getElem?_eq_getElem (by omega)]
      have e4 : wn.cell? ⟨w.heap.size, k * 5 + 4, none⟩ = some (xs[k * 5 + 4]'(by omega)) := by rw [O.cellAt _ (by omega), List.getElem?_eq_getElem (by omega)]
      have f0 := O.frozenAt (k * 5)
      have f1 := O.frozenAt (k * 5 + 1)
      have f2 := O.frozenAt (k * 5 + 2)
      have f3 := O.frozenAt (k * 5 + 3)
      have f4 := O.frozenAt (k * 5 + 4)
      have O1 := (O.stored (k * 5) (.string s)).1
      have O2 := (O1.stored (k * 5 + 1) (.string p)).1
      have O3 := (O2.stored (k * 5 + 2) (.string o)).1
      have O4 := (O3.stored (k * 5 + 3) (.int .i64 r)).1
      have O5 := (O4.stored (k * 5 + 4) (.slice ua zs.length uc)).1
      have HX : Hid ((((((xs.set (k * 5) (.string s)).set (k * 5 + 1) (.string p)).set (k * 5 + 2) (.string o)).set (k * 5 + 3) (.int .i64 r)).set (k * 5 + 4) (.slice ua zs.length uc)).take ((k + 1) * 5) = flat5 (ts.take (k + 1)) (us ++ [.slice ua zs.length uc])) := Lib.hid (by
        rw [HS.out, flat5_snoc _ _ _ _ hx.out.2.1]; exact set5 _ _ _ _ _ hx.out.1 (by omega))
      have B3 := ((((B.setCell (p := ⟨w.heap.size, k * 5, none⟩) (Nat.le_refl _) (.string s)).setCell (p := ⟨w.heap.size, k * 5 + 1, none⟩) (Nat.le_refl _) (.string p)).setCell (p := ⟨w.heap.size, k * 5 + 2, none⟩) (Nat.le_refl _) (.string o)).setCell (p := ⟨w.heap.size, k * 5 + 3, none⟩) (Nat.le_refl _) (.int .i64 r)).setCell (p := ⟨w.heap.size, k * 5 + 4, none⟩) (Nat.le_refl _) (.slice ua zs.length uc)
      have HI2 := Lib.hid (((((HIN.out.set (Nat.lt_succ_self _) (k * 5) (.string s)).set (Nat.lt_succ_self _) (k * 5 + 1) (.string p)).set (Nat.lt_succ_self _) (k * 5 + 2) (.string o)).set (Nat.lt_succ_self _) (k * 5 + 3) (.int .i64 r)).set (Nat.lt_succ_self _) (k * 5 + 4) (.slice ua zs.length uc))
      rw [← HS.out] at HI2
      generalize xs[k * 5]'(by omega) = z0 at e0
      generalize xs[k * 5 + 1]'(by omega) = z1 at e1
      generalize xs[k * 5 + 2]'(by omega) = z2 at e2
      generalize xs[k * 5 + 3]'(by omega) = z3 at e3
      generalize xs[k * 5 + 4]'(by omega) = z4 at e4
      have O6 := Lib.hid O5
      clear O O1 O2 O3 O4 O5 hxl B HIN
      go_wp2_with fail
      go_roundw
      case rel => exact ⟨k + 1, by omega, by go_num, ⟨_, _, O6.out, Lib.hid ⟨HX.out, HI2.out⟩⟩, B3⟩
      case measure => simp [intOf]; omega
    · obtain rfl : k = len := by omega
      have e : ts.take k = ts := List.take_of_length_le (by rw [HT.out]; exact Nat.le_refl _)
      have HX : Hid (xs = flat5 ts us ∧ Inn (w.heap.size + 1) wr ts us) := Lib.hid (by
        have := hx.out
        have hxl : xs.length = k * 5 := hown.1
        rw [e, List.take_of_length_le (by omega)] at this
        exact this)
      go_wp2_with fail
      go_ret
      exact ⟨rfl, ⟨us, by rw [← HX.out.1]; exact hown, HX.out.2⟩, hnx⟩
end Go.Proofs.Yteejpceliodcfaa
