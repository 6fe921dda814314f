/- The exact laws' own copy of a slice of named graphs, and what it owns. -/
import Derived.Test.YtnjphlaohihbaaaGreatG10
import Derived.Test.YtnjphlaohihbaaaGreatG08
import Derived.Test.YtnjphlaohihbaaaGreatG09
namespace Go.Proofs.YtnjphlaohihbaaaGreat
open Go.RowKit Go.WideShapes
theorem infoNam : (Tryz.prog.info? 35).map (fun i => (i.zero, i.size, i.bytes)) = some (some (.agg #[.string ⟨#[]⟩, .slice none 0 0]), 2, 40) := by kernel_rfl
theorem ownTN_kept {B : Nat} {w w' : World} {v : Value} {ts : List Tri3} (h : OwnT B w v ts) (hb : Below w.heap.size w w') : OwnT B w' v ts := World.ownsRow.kept h (grown_of_below hb) (by
  rcases hv : v.ownBlock with _ | i
  · exact .inl rfl
  · exact .inr (by simp))
theorem ownTN_base {B C : Nat} {w : World} {v : Value} {ts : List Tri3} (h : OwnT B w v ts) (hc : C ≤ B) : OwnT C w v ts := by
  obtain ⟨h1, h2⟩ := h
  refine ⟨h1, ?_⟩
  rcases h2 with h2 | ⟨g, cap, cur, e, hB, r⟩
  · exact .inl h2
  · exact .inr ⟨g, cap, cur, e, Nat.le_trans hc hB, r⟩
theorem setN {xs l : List Value} {k : Nat} (a : Value) (h : xs.take k = l) (hl : k < xs.length) : (xs.set k a).take (k + 1) = l ++ [a] := by
  subst h
  rw [List.take_add_one, List.take_set_of_le (Nat.le_refl _), List.getElem?_set_self hl]; rfl
def flatN : List NamV → List Value → List Value
  | t :: ts, u :: us => .string t.1 :: u :: flatN ts us
  | _, _ => []
theorem flatN_snoc (t : NamV) (u : Value) : ∀ (ts : List NamV) (us : List Value), us.length = ts.length → flatN (ts ++ [t]) (us ++ [u]) = flatN ts us ++ [.string t.1, u]
  | [], [], _ => rfl
  | [], _ :: _, h => by simp at h
  | _ :: _, [], h => by simp at h
  | s :: ts, v :: us, h => by
    have := flatN_snoc t u ts us (by simpa using h)
    simp only [List.cons_append, flatN, this]
theorem flatN_at : ∀ (ts : List NamV) (us : List Value), us.length = ts.length → ∀ (i : Nat) (t : NamV) (u : Value), ts[i]? = some t → us[i]? = some u →
    (flatN ts us)[i * 2]? = some (.string t.1) ∧ (flatN ts us)[i * 2 + 1]? = some u
  | [], _, _, i, t, u, h, _ => by simp at h
  | _ :: _, [], h, _, _, _, _, _ => by simp at h
  | s :: ts, v :: us, h, i, t, u, ht, hu => by
    cases i with
    | zero => simp at ht hu; subst ht hu; exact ⟨rfl, rfl⟩
    | succ n =>
      have := flatN_at ts us (by simpa using h) n t u (by simpa using ht) (by simpa using hu)
      rw [show (n + 1) * 2 = n * 2 + 2 from by omega]
      exact this
theorem setN2 {xs l : List Value} {k : Nat} (a b : Value) (h : xs.take (k * 2) = l) (hl : k * 2 + 1 < xs.length) :
    ((xs.set (k * 2) a).set (k * 2 + 1) b).take ((k + 1) * 2) = l ++ [a, b] := by
  have h1 := setN a h (by omega)
  have h2 := setN b h1 (by simp; omega)
  rw [show (k + 1) * 2 = k * 2 + 1 + 1 from by omega]
  simpa using h2
/-- The graphs, each in a block of its own, from B on. -/
def InnN (B : Nat) (w : World) (ts : List NamV) (us : List Value) : Prop :=
  us.length = ts.length ∧ (∀ (i : Nat) (u : Value) (t : NamV), us[i]? = some u → ts[i]? = some t → OwnT B w u t.2) ∧ us.Pairwise (fun u v => ∀ j, u.ownBlock = some j → v.ownBlock ≠ some j)
theorem InnN.nil (B : Nat) (w : World) : InnN B w [] [] := ⟨rfl, fun i u t h => by simp at h, .nil⟩
theorem InnN.next {B : Nat} {w w' : World} {ts : List NamV} {us : List Value} (h : InnN B w ts us) (hb : Below w.heap.size w w') : InnN B w' ts us := ⟨h.1, fun i u t hu ht => ownTN_kept (h.2.1 i u t hu ht) hb, h.2.2⟩
theorem InnN.set {B : Nat} {w : World} {ts : List NamV} {us : List Value} (h : InnN B w ts us) {g : Nat} (hg : g < B) (j : Nat) (q : Value) : InnN B (w.setCell ⟨g, j, none⟩ q) ts us := ⟨h.1, fun i u t hu ht => NamK.own_set (h.2.1 i u t hu ht) hg j q, h.2.2⟩
theorem InnN.snoc {B : Nat} {w : World} {C : Nat} {ts : List NamV} {us : List Value} {t : NamV} {u : Value} (h : InnN B w ts us) (hl : ∀ v ∈ us, ∀ j, v.ownBlock = some j → j < C) (hBC : B ≤ C) (ho : OwnT C w u t.2) : InnN B w (ts ++ [t]) (us ++ [u]) := by
  obtain ⟨h1, h2, h3⟩ := h
  refine ⟨by simp [h1], fun i v s hv hs => ?_, List.pairwise_append.2 ⟨h3, List.pairwise_singleton _ _, fun v hv v' hv' j hj e => ?_⟩⟩
  · rcases Nat.lt_or_ge i us.length with g | g
    · rw [List.getElem?_append_left g] at hv
      rw [List.getElem?_append_left (by omega)] at hs
      exact h2 i v s hv hs
    · have hi : i = us.length := by
        have := (List.getElem?_eq_some_iff.1 hv).1
        simp at this; omega
      subst hi
      rw [List.getElem?_append_right (Nat.le_refl _)] at hv
      rw [h1, List.getElem?_append_right (Nat.le_refl _)] at hs
      simp at hv hs
      subst hv hs
      exact ownTN_base ho hBC
  · obtain rfl : v' = u := by simpa using hv'
    have := hl v hv j hj
    have := (World.ownsRow.lt ho j e).1
    omega
theorem InnN.lt {B : Nat} {w : World} {ts : List NamV} {us : List Value} (h : InnN B w ts us) : ∀ v ∈ us, ∀ j, v.ownBlock = some j → B ≤ j ∧ j < w.heap.size := by
  intro v hv j hj
  obtain ⟨i, hi⟩ := List.mem_iff_getElem?.1 hv
  have hil := (List.getElem?_eq_some_iff.1 hi).1
  have ht : ts[i]? = some (ts[i]'(by have := h.1; omega)) := List.getElem?_eq_getElem _
  exact World.ownsRow.lt (h.2.1 i v _ hi ht) j hj
/-- The call owns the slice that lies in block B, and its graphs, behind it. -/
def OwnN (B : Nat) (w : World) (len : Nat) (ts : List NamV) : Prop := ∃ us, w.ownsRow B 35 2 (.slice (some ⟨B, 0, none⟩) len len) len (flatN ts us) ∧ InnN (B + 1) w ts us
theorem OwnN.is {B : Nat} {w : World} {len : Nat} {ts : List NamV} (h : OwnN B w len ts) (hl : ts.length = len) (hm : ∀ t ∈ ts, t.1.size ≤ maxLen) (hb : ∀ t ∈ ts, ∀ u ∈ t.2, u.1.size ≤ maxLen ∧ u.2.1.size ≤ maxLen ∧ u.2.2.size ≤ maxLen) : IsNams w (some ⟨B, 0, none⟩) len len ts := by
  obtain ⟨us, ho, hi⟩ := h
  have h0 := ho
  obtain ⟨hln, hc⟩ := ho
  rcases hc with ⟨e, _⟩ | ⟨g, cap, cur, e, _, _, h1, h2, _⟩
  · cases e
  · simp only [Value.slice.injEq] at e
    obtain ⟨_, _, rfl⟩ := e
    refine .inr ⟨_, rfl, h1, h2, hl, fun i t ht => ?_⟩
    have hil : i < ts.length := (List.getElem?_eq_some_iff.1 ht).1
    have hu : us[i]? = some (us[i]'(by have := hi.1; omega)) := List.getElem?_eq_getElem _
    obtain ⟨f0, f1⟩ := flatN_at ts us hi.1 i t _ ht hu
    have oi := hi.2.1 i _ t hu ht
    obtain ⟨a', c', ev, ii⟩ := oi.is (hb t (List.mem_of_getElem? ht))
    rw [ev] at f1
    have e : ∀ j, (⟨B, 0, none⟩ : Addr).add (2 * i + j) = ⟨B, i * 2 + j, none⟩ := fun j => by rw [add_plain, Nat.zero_add, show 2 * i + j = i * 2 + j from by omega]
    have e0 : (⟨B, 0, none⟩ : Addr).add (2 * i) = ⟨B, i * 2, none⟩ := e 0
    have m0 := hm t (List.mem_of_getElem? ht)
    refine ⟨a', t.2.length, c', ?_, ?_, ii, m0⟩
    · rw [e0]; exact (h0.cellAt _ (by omega)).trans f0
    · rw [e]; exact (h0.cellAt _ (by omega)).trans f1
theorem OwnN.kept {B : Nat} {w w' : World} {len : Nat} {ts : List NamV} (h : OwnN B w len ts) (hb : Below w.heap.size w w') : OwnN B w' len ts := by
  obtain ⟨us, ho, hi⟩ := h
  exact ⟨us, ho.kept (grown_of_below hb) (.inr (by simp [Value.ownBlock])), hi.next hb⟩
set_option maxRecDepth 100000 in
set_option maxHeartbeats 1600000 in
theorem toNam (s : ByteArray) (a : Option Addr) (n c : Nat) (ts : List Tri3) (w : World) (h : IsTris w a n c ts) (hn : n ≤ 1048576) :
    Calls Tryz.prog 52 #[.agg #[.string s, .slice a n c]] w fun e w' => ∃ v, e = .returned (.agg #[.string s, v]) ∧ OwnT w.heap.size w' v ts ∧ Below w.heap.size w w' := by
  obtain ⟨W1, hW1⟩ : ∃ W, w.alloc (.cells #[.string s, .slice a n c] 74) = W := ⟨_, rfl⟩
  obtain ⟨W2, hW2⟩ : ∃ W, W1.alloc (.cells #[.string ⟨#[]⟩, .slice none 0 0] 35) = W := ⟨_, rfl⟩
  obtain ⟨W3, hW3⟩ : ∃ W, W2.alloc (.cells #[.string s, .slice none 0 0] 35) = W := ⟨_, rfl⟩
  have z1 : W1.heap.size = w.heap.size + 1 := by rw [← hW1]; simp
  have z2 : W2.heap.size = w.heap.size + 1 + 1 := by rw [← hW2]; simp [z1]
  have z3 : W3.heap.size = w.heap.size + 1 + 1 + 1 := by rw [← hW3]; simp [z2]
  have B0 : Below w.heap.size w W3 := by
    rw [← hW3, ← hW2, ← hW1]; exact (((Below.refl w.heap.size w).alloc (Nat.le_refl _) _).alloc (by simp) _).alloc (by simp; omega) _
  have X0 : NamK.Box2 W3 w.heap.size (.string s) (.slice a n c) 74 := by
    rw [← hW3, ← hW2, ← hW1]; exact ((NamK.Box2.new w _ _ _).alloc _).alloc _
  have Y0 : NamK.Box2 W3 (w.heap.size + 1) (.string ⟨#[]⟩) (.slice none 0 0) 35 := by
    rw [← hW3, ← hW2, ← z1]; exact (NamK.Box2.new W1 _ _ _).alloc _
  have Z0 : NamK.Box2 W3 (w.heap.size + 1 + 1) (.string s) (.slice none 0 0) 35 := by
    rw [← hW3, ← z2]; exact NamK.Box2.new W2 _ _ _
  have HH := Lib.hid h
  have HZ3 := Lib.hid z3
  have HW := Lib.hid (And.intro hW1 (And.intro hW2 hW3))
  obtain ⟨x0, x1⟩ := X0.cells
  clear h z1 z2 z3 hW1 hW2 hW3
  go_enter Tryz.func52, Tryz.ntmps52
  go_wp2_with fail
  rw [HW.out.1, HW.out.2.1, HW.out.2.2]
  refine (toTriS a n c ts _ (HH.out.next B0) hn).mono ?_
  rintro e w1 ⟨v, rfl, o1, hb⟩
  rw [HZ3.out] at o1
  obtain ⟨p1, k1, r1, rfl⟩ := NamK.own_slice o1
  have B1 := B0.trans (hb.mono B0.size)
  have Y1 := Y0.next hb
  have Z1 := Z0.next hb
  clear hb x0 x1 B0 X0 Y0 Z0
  obtain ⟨z0, z1⟩ := Z1.cells
  obtain ⟨f0, f1⟩ := Z1.free
  have B2 := B1.setCell (p := ⟨w.heap.size + 1 + 1, 1, none⟩) (by show w.heap.size ≤ w.heap.size + 1 + 1; omega) (.slice p1 k1 r1)
  have Y2 := Y1.far (a := ⟨w.heap.size + 1 + 1, 1, none⟩) (by show w.heap.size + 1 ≠ w.heap.size + 1 + 1; omega) (.slice p1 k1 r1)
  have Z2 := Z1.set1 (.slice p1 k1 r1)
  have o2 := NamK.own_set o1 (g := w.heap.size + 1 + 1) (by omega) 1 (.slice p1 k1 r1)
  obtain ⟨y0, y1⟩ := Y1.cells
  obtain ⟨q0, q1⟩ := Y1.free
  have HO := Lib.hid o2
  have HB := Lib.hid B2
  clear B1 Y1 Z1 o1 o2 B2 Y2 Z2
  go_wp2_with fail
  refine bodyPost_ret (v := .agg #[.string s, .slice p1 k1 r1]) (by simp [results, Tryz.results52, go_sem, *]) rfl ⟨_, rfl, ?_, ((HB.out.setCell (p := ⟨w.heap.size + 1, 0, none⟩) (Nat.le_succ _) _).setCell (p := ⟨w.heap.size + 1, 1, none⟩) (Nat.le_succ _) _)⟩
  exact own_base (NamK.own_set (NamK.own_set HO.out (by omega) 0 _) (by omega) 1 _) (by omega)
set_option maxRecDepth 100000 in
set_option maxHeartbeats 1600000 in
theorem toNams (a : Option Addr) (len cap : Nat) (ts : List NamV) (w : World) (h : IsNams w a len cap ts) (hs : len + totN ts ≤ 1048576) :
    Calls Tryz.prog 26 #[.slice a len cap] w fun e w' => e = .returned (.slice (some ⟨w.heap.size, 0, none⟩) len len) ∧ OwnN w.heap.size w' len ts ∧ Below w.heap.size w w' := by
  obtain ⟨i0, hi, hz0, hz1, hz2⟩ := info_parts infoNam
  have HT := Lib.hid h.len
  have H := Lib.hid h
  have HTOT : Hid (∀ t ∈ ts, t.2.length ≤ 1048576) := Lib.hid (fun t ht => by
    have := totN_mem ht
    omega)
  clear h
  go_enter Tryz.func26, Tryz.ntmps26
  go_wp2_with (at_make; refine wpList_make_full _ rfl _ _ 24 rfl w.heap.size 35 i0 _ 2 Tryz.underlying24 hi hz0 hz1 .i64 .i64 _ _ len rfl rfl rfl rfl ?c1 ?c2 (Nat.le_refl _) ?_)
  case c1 => rw [hz2]; omega
  case c2 => unfold maxLen; omega
  intro w0 hown0 hg0
  have hb0 : Below w.heap.size w w0 := (Below.refl _ _).grown hg0 (Nat.le_refl _) (by simp)
  clear hg0
  go_wp2_with fail
  go_loopw [4] (fun i wr => ∃ k : Nat, k ≤ len ∧ i = .int .i64 k ∧ (∃ xs us : List Value, wr.ownsRow w.heap.size 35 2 (.slice (some ⟨w.heap.size, 0, none⟩) len len) len xs ∧ Hid (xs.take (k * 2) = flatN (ts.take k) us ∧ InnN (w.heap.size + 1) wr (ts.take k) us)) ∧ Below w.heap.size w wr) (fun i _ => len - (intOf i).toNat)
  case atStart => exact ⟨0, Nat.zero_le _, rfl, ⟨_, [], hown0, Lib.hid ⟨by simp [flatN], InnN.nil _ _⟩⟩, hb0⟩
  case round =>
    obtain ⟨k, hk, rfl, ⟨xs, us, hown, hx⟩, hnx⟩ := hrel
    have hk6 : (0 : Int) ≤ (k : Int) := by omega
    by_cases hlt : k < len
    · obtain ⟨b, off, rfl, hb, hl, hm, hts, hc⟩ := (H.out.next hnx).cells (by omega)
      have ht : ts[k]? = some ts[k] := List.getElem?_eq_getElem (by omega)
      have HS : Hid (ts.take (k + 1) = ts.take k ++ [ts[k]]) := Lib.hid (List.take_succ_eq_append_getElem (by omega))
      obtain ⟨a', n, c, c0, c1, hz, m0⟩ := hc k _ ht
      have hzt := HTOT.out _ (List.getElem_mem (by omega : k < ts.length))
      clear m0
      generalize ts[k] = t at c0 c1 hz HS hzt
      obtain ⟨s, zs⟩ := t
      simp only at c0 c1 hz hzt
      have hn : n ≤ 1048576 := by have := hz.len; omega
      have D := Lib.hid (toNam s a' n c zs wr hz hn)
      have HSM := Lib.hid hz.small
      have hlt2 : (k : Int) < (len : Int) := by omega
      clear ht hts hc hm hz hl
      go_wp2_with fail
      refine D.out.mono ?_
      rintro e wn ⟨u, rfl, ou, hbn⟩
      have B := hnx.trans (hbn.mono hnx.size)
      have O := hown.kept (grown_of_below hbn) (.inr (by simp [Value.ownBlock]))
      have hgt : w.heap.size < wr.heap.size := (World.ownsRow.lt hown w.heap.size (by simp [Value.ownBlock])).2
      have HIN : Hid (InnN (w.heap.size + 1) wn (ts.take k ++ [(s, zs)]) (us ++ [u])) := Lib.hid (InnN.snoc (hx.out.2.next hbn) (fun v hv j hj => (hx.out.2.lt v hv j hj).2) hgt ou)
      obtain ⟨ua, uc, rfl, _⟩ := ou.is HSM.out
      clear hbn hown hnx c0 c1 D ou
      have hxl : xs.length = len * 2 := O.1
      have e0 : wn.cell? ⟨w.heap.size, k * 2, none⟩ = some (xs[k * 2]'(by omega)) := by rw [O.cellAt _ (by omega), List.getElem?_eq_getElem (by omega)]
      have e1 : wn.cell? ⟨w.heap.size, k * 2 + 1, none⟩ = some (xs[k * 2 + 1]'(by omega)) := by rw [O.cellAt _ (by omega), List.getElem?_eq_getElem (by omega)]
      have f0 := O.frozenAt (k * 2)
      have f1 := O.frozenAt (k * 2 + 1)
      have O1 := (O.stored (k * 2) (.string s)).1
      have O2 := (O1.stored (k * 2 + 1) (.slice ua zs.length uc)).1
      have HX : Hid (((xs.set (k * 2) (.string s)).set (k * 2 + 1) (.slice ua zs.length uc)).take ((k + 1) * 2) = flatN (ts.take (k + 1)) (us ++ [.slice ua zs.length uc])) := Lib.hid (by
        rw [HS.out, flatN_snoc _ _ _ _ hx.out.2.1]; exact setN2 _ _ hx.out.1 (by omega))
      have B3 := (B.setCell (p := ⟨w.heap.size, k * 2, none⟩) (Nat.le_refl _) (.string s)).setCell (p := ⟨w.heap.size, k * 2 + 1, none⟩) (Nat.le_refl _) (.slice ua zs.length uc)
      have HI2 := Lib.hid ((HIN.out.set (Nat.lt_succ_self _) (k * 2) (.string s)).set (Nat.lt_succ_self _) (k * 2 + 1) (.slice ua zs.length uc))
      rw [← HS.out] at HI2
      generalize xs[k * 2]'(by omega) = z0 at e0
      generalize xs[k * 2 + 1]'(by omega) = z1 at e1
      have O6 := Lib.hid O2
      clear O O1 O2 hxl B HIN
      go_wp2_with fail
      go_roundw
      case rel => exact ⟨k + 1, by omega, by go_num, ⟨_, _, O6.out, Lib.hid ⟨HX.out, HI2.out⟩⟩, B3⟩
      case measure => simp [intOf]; omega
    · obtain rfl : k = len := by omega
      have e : ts.take k = ts := List.take_of_length_le (by rw [HT.out]; exact Nat.le_refl _)
      have HX : Hid (xs = flatN ts us ∧ InnN (w.heap.size + 1) wr ts us) := Lib.hid (by
        have := hx.out
        have hxl : xs.length = k * 2 := hown.1
        rw [e, List.take_of_length_le (by omega)] at this
        exact this)
      go_wp2_with fail
      go_ret
      exact ⟨rfl, ⟨us, by rw [← HX.out.1]; exact hown, HX.out.2⟩, hnx⟩
end Go.Proofs.YtnjphlaohihbaaaGreat
/- Datasets: names that rise; a map of them. -/
namespace Go.Proofs.YtnjphlaohihbaaaGreat
open Go.Maps
abbrev nmT (r : NamV) : Txt := r.1.data.toList
theorem lessN_is (t u : NamV) : lessN t u = lessS (nmT t) (nmT u) := by unfold lessN lessS; rw [ByteArray.toList_eq, ByteArray.toList_eq]
theorem rising_names (ts : List NamV) : ∀ k, k ≤ ts.length → gUpto namT lessN ts k = true → RisingS ((ts.take k).map nmT)
  | 0, _, _ => by simp [RisingS]
  | k + 1, hk, h => by
    rw [gUpto_succ, Bool.and_eq_true] at h
    have ih := rising_names ts k (by omega) h.1
    have ht : ts[k]? = some (ts[k]'(by omega)) := List.getElem?_eq_getElem _
    have e : ts.take (k + 1) = ts.take k ++ [ts[k]'(by omega)] := List.take_succ_eq_append_getElem (by omega)
    have h2 := h.2
    generalize ts[k]'(by omega) = t at ht e
    rw [e, List.map_append, List.map_singleton]
    refine List.pairwise_append.2 ⟨ih, List.pairwise_singleton _ _, fun a ha b hb => ?_⟩
    obtain rfl : b = nmT t := by simpa using hb
    rcases k with _ | j
    · simp at ha
    · have hu : ts[j]? = some (ts[j]'(by omega)) := List.getElem?_eq_getElem _
      rw [gAt_next (by omega) ht hu, Bool.and_eq_true] at h2
      have e2 : ts.take (j + 1) = ts.take j ++ [ts[j]'(by omega)] := List.take_succ_eq_append_getElem (by omega)
      have hl := h2.2
      rw [lessN_is] at hl
      rw [e2, List.map_append, List.map_singleton] at ih ha
      rcases List.mem_append.1 ha with ha | ha
      · exact lessS_trans ((List.pairwise_append.1 ih).2.2 a ha _ (by simp)) hl
      · obtain rfl : a = nmT (ts[j]'(by omega)) := by simpa using ha
        exact hl
theorem dataOk_parts {ts : List NamV} (h : dataOk ts = true) : ts.length ≤ 6 ∧ RisingS (ts.map nmT) := by
  unfold dataOk at h
  rw [Bool.and_eq_true, decide_eq_true_eq] at h
  have := rising_names ts ts.length (Nat.le_refl _) h.2
  rw [List.take_of_length_le (Nat.le_refl _)] at this
  exact ⟨h.1, this⟩
/-- The map's entries: each name with its graph's slice. -/
def kvsD : List NamV → List Value → List (Txt × Value)
  | t :: ts, u :: us => (nmT t, u) :: kvsD ts us
  | _, _ => []
theorem kvsD_snoc (t : NamV) (u : Value) : ∀ (ts : List NamV) (us : List Value), us.length = ts.length → kvsD (ts ++ [t]) (us ++ [u]) = kvsD ts us ++ [(nmT t, u)]
  | [], [], _ => rfl
  | [], _ :: _, h => by simp at h
  | _ :: _, [], h => by simp at h
  | s :: ts, v :: us, h => by
    have := kvsD_snoc t u ts us (by simpa using h)
    simp only [List.cons_append, kvsD, this]
theorem kvsD_keys : ∀ (ts : List NamV) (us : List Value), us.length = ts.length → (kvsD ts us).map Prod.fst = ts.map nmT
  | [], [], _ => rfl
  | [], _ :: _, h => by simp at h
  | _ :: _, [], h => by simp at h
  | s :: ts, v :: us, h => by
    have := kvsD_keys ts us (by simpa using h)
    simp only [kvsD, List.map_cons, this]
theorem kvsD_mem : ∀ (ts : List NamV) (us : List Value), us.length = ts.length → ∀ (i : Nat) (t : NamV) (u : Value), ts[i]? = some t → us[i]? = some u → (nmT t, u) ∈ kvsD ts us
  | [], _, _, i, t, u, h, _ => by simp at h
  | _ :: _, [], h, _, _, _, _, _ => by simp at h
  | s :: ts, v :: us, h, i, t, u, ht, hu => by
    cases i with
    | zero => simp at ht hu; subst ht hu; simp [kvsD]
    | succ n => exact List.mem_cons_of_mem _ (kvsD_mem ts us (by simpa using h) n t u (by simpa using ht) (by simpa using hu))
theorem addD_new {kvs : List (Txt × Value)} {t : Txt} {v : Value} (h : t ∉ kvs.map Prod.fst) : addD kvs t v = kvs ++ [(t, v)] := by unfold addD; rw [if_neg h]
theorem rising_new {ts : List NamV} {k : Nat} {t : NamV} (h : RisingS (ts.map nmT)) (ht : ts[k]? = some t) : nmT t ∉ (ts.take k).map nmT := by
  intro hm
  have hk := (List.getElem?_eq_some_iff.1 ht).1
  have e : ts = ts.take k ++ (t :: ts.drop (k + 1)) := by
    conv => lhs; rw [← List.take_append_drop k ts]
    rw [List.drop_eq_getElem_cons hk, (List.getElem?_eq_some_iff.1 ht).2]
  rw [e, List.map_append] at h
  have := (List.pairwise_append.1 h).2.2 _ hm (nmT t) (by simp)
  rw [lessS_irrefl] at this
  cases this
end Go.Proofs.YtnjphlaohihbaaaGreat
/- What a call may have written, told by where it lies; facts that speak of some blocks alone. -/
namespace Go.Proofs.YtnjphlaohihbaaaGreat
open Go.RowKit
/-- Only what lies from D on and below E may have been written. -/
structure Turn (D E : Nat) (w w' : World) : Prop where
  os : w'.os = w.os
  tape : w'.tape = w.tape
  output : w'.output = w.output
  size : w.heap.size ≤ w'.heap.size
  block : ∀ k, k < w.heap.size → k < D ∨ E ≤ k → w'.heap[k]? = w.heap[k]?
theorem Turn.of_below {w w' : World} (h : Below w.heap.size w w') (D : Nat) : Turn D D w w' := ⟨h.os, h.tape, h.output, h.size, fun k hk _ => h.block k hk⟩
theorem Turn.of_grown {w w' : World} {row : Option Nat} (h : w.grownBy w' row) {D E : Nat} (hr : ∀ j, row = some j → D ≤ j ∧ j < E) : Turn D E w w' :=
  ⟨h.os, h.tape, h.output, h.size, fun k hk hd => h.block k hk (fun e => by have := hr k e.symm; omega)⟩
theorem Turn.below {D E B : Nat} {w w' : World} (h : Turn D E w w') (hB : B ≤ w.heap.size) (hD : B ≤ D) : Below B w w' := ⟨h.os, h.tape, h.output, h.size, fun k hk => h.block k (by omega) (.inl (by omega))⟩
/-- p speaks of nothing but the blocks from B on and below C. -/
def Lives (B C : Nat) (p : World → Prop) : Prop := ∀ w w' : World, (∀ k, B ≤ k → k < C → w'.heap[k]? = w.heap[k]?) → p w → p w'
/-- p holds, and speaks of nothing else. -/
structure Holds (B C : Nat) (w : World) (p : World → Prop) : Prop where
  lives : Lives B C p
  le : C ≤ w.heap.size
  now : p w
theorem Holds.step {B C D E : Nat} {w w' : World} {p : World → Prop} (h : Holds B C w p) (ht : Turn D E w w') (hd : C ≤ D ∨ E ≤ B) : Holds B C w' p :=
  ⟨h.lives, Nat.le_trans h.le ht.size, h.lives w w' (fun k h1 h2 => ht.block k (by have := h.le; omega) (by omega)) h.now⟩
theorem Holds.next {B C : Nat} {w w' : World} {p : World → Prop} (h : Holds B C w p) (hb : Below w.heap.size w w') : Holds B C w' p :=
  ⟨h.lives, Nat.le_trans h.le hb.size, h.lives w w' (fun k h1 h2 => hb.block k (by have := h.le; omega)) h.now⟩
theorem Holds.drew {B C : Nat} {w : World} {p : World → Prop} (h : Holds B C w p) : Holds B C w.drew p := ⟨h.lives, h.le, h.lives w w.drew (fun _ _ _ => rfl) h.now⟩
theorem Holds.undrew {B C : Nat} {w : World} {p : World → Prop} (h : Holds B C w.drew p) : Holds B C w p := ⟨h.lives, h.le, h.lives w.drew w (fun _ _ _ => rfl) h.now⟩
theorem Holds.alloc {B C : Nat} {w : World} {p : World → Prop} (h : Holds B C w p) (o : Obj) : Holds B C (w.alloc o) p := h.next ((Below.refl w.heap.size w).alloc (Nat.le_refl _) o)
theorem Holds.widen {B C B' C' : Nat} {w : World} {p : World → Prop} (h : Holds B C w p) (hB : B' ≤ B) (hC : C ≤ C') (hl : C' ≤ w.heap.size) : Holds B' C' w p :=
  ⟨fun w w' he => h.lives w w' (fun k h1 h2 => he k (by omega) (by omega)), hl, h.now⟩
/-- Block g holds just these cells. -/
def Cells (g : Nat) (cs : Array Value) (T : TypeId) (w : World) : Prop := w.heap[g]? = some (.cells cs T (0, 0))
theorem cells_lives (g : Nat) (cs : Array Value) (T : TypeId) : Lives g (g + 1) (Cells g cs T) := fun _ _ he h => (he g (Nat.le_refl _) (Nat.lt_succ_self _)).trans h
theorem cells_new (w : World) (cs : Array Value) (T : TypeId) : Holds w.heap.size (w.heap.size + 1) (w.alloc (.cells cs T)) (Cells w.heap.size cs T) := ⟨cells_lives _ _ _, by simp, heap_alloc_new w _⟩
theorem Cells.at {g : Nat} {cs : Array Value} {T : TypeId} {w : World} (h : Cells g cs T w) (i : Nat) : w.cell? ⟨g, i, none⟩ = cs[i]? := by
  unfold Cells at h; simp [World.cell?, h]
theorem Cells.free {g : Nat} {cs : Array Value} {T : TypeId} {w : World} (h : Cells g cs T w) (i : Nat) : w.frozen? ⟨g, i, none⟩ = false := by
  unfold Cells at h; simp [World.frozen?, h]
/-- What a row's owner says, with a ceiling, speaks of the row's block alone. -/
theorem row_lives {B C : Nat} {e : TypeId} {k n : Nat} {v : Value} {xs : List Value} : Lives B C (fun w => w.ownsRow B e k v n xs ∧ ∀ j, v.ownBlock = some j → j < C) := by
  rintro w w' he ⟨⟨h1, h2⟩, h3⟩
  refine ⟨⟨h1, ?_⟩, h3⟩
  rcases h2 with h2 | ⟨g, cap, cur, rfl, hB, hh, r⟩
  · exact .inl h2
  · exact .inr ⟨g, cap, cur, rfl, hB, (he g hB (h3 g rfl)).trans hh, r⟩
theorem row_holds {B e k n : Nat} {w w' : World} {v : Value} {xs : List Value} (h : w'.ownsRow w.heap.size e k v n xs) (_hb : Below B w w') : Holds w.heap.size w'.heap.size w' (fun W => W.ownsRow w.heap.size e k v n xs ∧ ∀ j, v.ownBlock = some j → j < w'.heap.size) :=
  ⟨row_lives, Nat.le_refl _, h, fun j hj => (World.ownsRow.lt h j hj).2⟩
theorem and_lives {B C : Nat} {p q : World → Prop} (hp : Lives B C p) (hq : Lives B C q) : Lives B C (fun w => p w ∧ q w) := fun w w2 he h => ⟨hp w w2 he h.1, hq w w2 he h.2⟩
/-- The call owns a slice of these triples, between B and C. -/
def OwnC (B C : Nat) (v : Value) (ts : List Tri3) (w : World) : Prop := OwnT B w v ts ∧ ∀ j, v.ownBlock = some j → j < C
theorem ownC_lives {B C : Nat} {v : Value} {ts : List Tri3} : Lives B C (OwnC B C v ts) := row_lives
theorem ownC_new {w w' : World} {v : Value} {ts : List Tri3} (h : OwnT w.heap.size w' v ts) (_hb : Below w.heap.size w w') : Holds w.heap.size w'.heap.size w' (OwnC w.heap.size w'.heap.size v ts) :=
  ⟨ownC_lives, Nat.le_refl _, h, fun j hj => (World.ownsRow.lt h j hj).2⟩
theorem OwnC.turn {B C : Nat} {v : Value} {ts : List Tri3} {w w' : World} (h : OwnC B C v ts w) (hg : w.grownBy w' v.ownBlock) : Turn B C w w' := .of_grown hg (fun j hj => ⟨(World.ownsRow.lt h.1 j hj).1, h.2 j hj⟩)
end Go.Proofs.YtnjphlaohihbaaaGreat
