/- Pairs that are marked: see PairK; with the rows' sizes. -/
import Derived.Test.YthnpchcfjkepaaaG32
import Derived.Deep.RegionHeld3

/- The exact laws' own copy of a slice of rows, what it owns, and texts copied. -/
namespace Go.Proofs.Ythnpchcfjkepaaa
open Go.RowKit Go.WideShapes
theorem infoRow : (Try.prog.info? 82).map (fun i => (i.zero, i.size, i.bytes)) = some (some (.slice none 0 0), 1, 24) := by kernel_rfl
theorem ownP_kept {B : Nat} {w w' : World} {v : Value} {ts : RowV} (h : OwnP B w v ts) (hb : Below w.heap.size w w') : OwnP B w' v ts := World.ownsRow.kept h (grown_of_below hb) (by
  rcases hv : v.ownBlock with _ | i
  · exact .inl rfl
  · exact .inr (by simp))
theorem ownP_base {B C : Nat} {w : World} {v : Value} {ts : RowV} (h : OwnP B w v ts) (hc : C ≤ B) : OwnP C w v ts := by
  obtain ⟨h1, h2⟩ := h
  refine ⟨h1, ?_⟩
  rcases h2 with h2 | ⟨g, cap, cur, e, hB, r⟩
  · exact .inl h2
  · exact .inr ⟨g, cap, cur, e, Nat.le_trans hc hB, r⟩
theorem ownP_set {B : Nat} {w : World} {v : Value} {ts : RowV} (h : OwnP B w v ts) {g : Nat} (hg : g < B) (j : Nat) (u : Value) : OwnP B (w.setCell ⟨g, j, none⟩ u) v ts := by
  refine World.ownsRow.kept h (row := some g) ⟨rfl, rfl, rfl, by simp [World.setCell], fun k _ hne => Below.heap_setCell _ _ _ _ (fun e => hne (by rw [e]))⟩ ?_
  rcases hv : v.ownBlock with _ | q
  · exact .inl rfl
  · exact .inr (fun e => by cases e; have := (World.ownsRow.lt h g hv).1; omega)
theorem setR {xs l : List Value} {k : Nat} (a : Value) (h : xs.take k = l) (hl : k < xs.length) : (xs.set k a).take (k + 1) = l ++ [a] := by
  subst h
  rw [List.take_add_one, List.take_set_of_le (Nat.le_refl _), List.getElem?_set_self hl]; rfl
/-- Rows, each in a block of its own, from B on. -/
def InnR (B : Nat) (w : World) (rs : List RowV) (us : List Value) : Prop :=
  us.length = rs.length ∧ (∀ (i : Nat) (u : Value) (r : RowV), us[i]? = some u → rs[i]? = some r → OwnP B w u r) ∧ us.Pairwise (fun u v => ∀ j, u.ownBlock = some j → v.ownBlock ≠ some j)
theorem InnR.nil (B : Nat) (w : World) : InnR B w [] [] := ⟨rfl, fun i u t h => by simp at h, .nil⟩
theorem InnR.next {B : Nat} {w w' : World} {rs : List RowV} {us : List Value} (h : InnR B w rs us) (hb : Below w.heap.size w w') : InnR B w' rs us := ⟨h.1, fun i u t hu ht => ownP_kept (h.2.1 i u t hu ht) hb, h.2.2⟩
theorem InnR.set {B : Nat} {w : World} {rs : List RowV} {us : List Value} (h : InnR B w rs us) {g : Nat} (hg : g < B) (j : Nat) (q : Value) : InnR B (w.setCell ⟨g, j, none⟩ q) rs us := ⟨h.1, fun i u t hu ht => ownP_set (h.2.1 i u t hu ht) hg j q, h.2.2⟩
theorem InnR.snoc {B : Nat} {w : World} {C : Nat} {rs : List RowV} {us : List Value} {r : RowV} {u : Value} (h : InnR B w rs us) (hl : ∀ v ∈ us, ∀ j, v.ownBlock = some j → j < C) (hBC : B ≤ C) (ho : OwnP C w u r) : InnR B w (rs ++ [r]) (us ++ [u]) := by
  obtain ⟨h1, h2, h3⟩ := h
  refine ⟨by simp [h1], fun i v s hv hs => ?_, List.pairwise_append.2 ⟨h3, List.pairwise_singleton _ _, fun v hv v' hv' j hj e => ?_⟩⟩
  · rcases Nat.lt_or_ge i us.length with g | g
    · rw [List.getElem?_append_left g] at hv
      rw [List.getElem?_append_left (by omega)] at hs
      exact h2 i v s hv hs
    · have hi : i = us.length := by
        have := (List.getElem?_eq_some_iff.1 hv).1
        simp at this; omega
      subst hi
      rw [List.getElem?_append_right (Nat.le_refl _)] at hv
      rw [h1, List.getElem?_append_right (Nat.le_refl _)] at hs
      simp at hv hs
      subst hv hs
      exact ownP_base ho hBC
  · obtain rfl : v' = u := by simpa using hv'
    have := hl v hv j hj
    have := (World.ownsRow.lt ho j e).1
    omega
theorem InnR.lt {B : Nat} {w : World} {rs : List RowV} {us : List Value} (h : InnR B w rs us) : ∀ v ∈ us, ∀ j, v.ownBlock = some j → B ≤ j ∧ j < w.heap.size := by
  intro v hv j hj
  obtain ⟨i, hi⟩ := List.mem_iff_getElem?.1 hv
  have hil := (List.getElem?_eq_some_iff.1 hi).1
  have ht : rs[i]? = some (rs[i]'(by have := h.1; omega)) := List.getElem?_eq_getElem _
  exact World.ownsRow.lt (h.2.1 i v _ hi ht) j hj
/-- The call owns a slice of rows and each of these, no two in one block. -/
def OwnRs (B : Nat) (w : World) (v : Value) (rs : List RowV) : Prop := ∃ us, w.ownsRow B 82 1 v rs.length us ∧ InnR B w rs us ∧ ∀ u ∈ us, ∀ j, u.ownBlock = some j → v.ownBlock ≠ some j
theorem OwnRs.is {B : Nat} {w : World} {v : Value} {rs : List RowV} (h : OwnRs B w v rs) (hm : ∀ r ∈ rs, ∀ t ∈ r, t.1.size ≤ maxLen ∧ t.2.size ≤ maxLen) : ∃ a cap, v = .slice a rs.length cap ∧ IsRows w a rs.length cap rs := by
  obtain ⟨us, ho, hi, _⟩ := h
  have h0 := ho
  obtain ⟨_, hc⟩ := ho
  rcases hc with ⟨rfl, hl⟩ | ⟨g, cap, cur, rfl, _, _, h1, h2, _⟩
  · exact ⟨none, 0, by rw [hl], .inl ⟨rfl, hl, rfl, List.length_eq_zero_iff.1 hl⟩⟩
  · refine ⟨_, cap, rfl, .inr ⟨_, rfl, h1, h2, rfl, fun i r hr => ?_⟩⟩
    have hil : i < rs.length := (List.getElem?_eq_some_iff.1 hr).1
    have hu : us[i]? = some (us[i]'(by have := hi.1; omega)) := List.getElem?_eq_getElem _
    have oi := hi.2.1 i _ r hu hr
    obtain ⟨a', c', ev, ii⟩ := oi.is (hm r (List.mem_of_getElem? hr))
    refine ⟨a', r.length, c', ?_, ii⟩
    rw [add_plain, Nat.zero_add]
    exact (h0.cellAt i (by omega)).trans (by rw [hu, ev])
theorem OwnRs.kept {B : Nat} {w w' : World} {v : Value} {rs : List RowV} (h : OwnRs B w v rs) (hb : Below w.heap.size w w') : OwnRs B w' v rs := by
  obtain ⟨us, ho, hi, hn⟩ := h
  exact ⟨us, ho.kept (grown_of_below hb) (by
    rcases hv : v.ownBlock with _ | i
    · exact .inl rfl
    · exact .inr (by simp)), hi.next hb, hn⟩
set_option maxRecDepth 100000 in
set_option maxHeartbeats 1600000 in
theorem toRows (a : Option Addr) (len cap : Nat) (rs : List RowV) (w : World) (h : IsRows w a len cap rs) (hs : len + totR rs ≤ 1048576) :
    Calls Try.prog 24 #[.slice a len cap] w fun e w' => ∃ v, e = .returned v ∧ OwnRs w.heap.size w' v rs ∧ Below w.heap.size w w' := by
  obtain ⟨i0, hi, hz0, hz1, hz2⟩ := info_parts infoRow
  have HT := Lib.hid h.len
  have H := Lib.hid h
  have HTOT : Hid (∀ r ∈ rs, r.length ≤ 1048576) := Lib.hid (fun r hr => by have := totR_mem hr; omega)
  clear h
  go_enter Try.func24, Try.ntmps24
  go_wp2_with (at_make; refine wpList_make_full _ rfl _ _ 51 rfl w.heap.size 82 i0 _ 1 Try.underlying51 hi hz0 hz1 .i64 .i64 _ _ len rfl rfl rfl rfl ?c1 ?c2 (Nat.le_refl _) ?_)
  case c1 => rw [hz2]; omega
  case c2 => unfold maxLen; omega
  intro w0 hown0 hg0
  have hb0 : Below w.heap.size w w0 := (Below.refl _ _).grown hg0 (Nat.le_refl _) (by simp)
  clear hg0
  go_wp2_with fail
  go_loopw [4] (fun i wr => ∃ k : Nat, k ≤ len ∧ i = .int .i64 k ∧ (∃ xs us : List Value, wr.ownsRow w.heap.size 82 1 (.slice (some ⟨w.heap.size, 0, none⟩) len len) len xs ∧ Hid (xs.take k = us ∧ InnR (w.heap.size + 1) wr (rs.take k) us)) ∧ Below w.heap.size w wr) (fun i _ => len - (intOf i).toNat)
  case atStart => exact ⟨0, Nat.zero_le _, rfl, ⟨_, [], hown0, Lib.hid ⟨by simp, InnR.nil _ _⟩⟩, hb0⟩
  case round =>
    obtain ⟨k, hk, rfl, ⟨xs, us, hown, hx⟩, hnx⟩ := hrel
    have hk6 : (0 : Int) ≤ (k : Int) := by omega
    by_cases hlt : k < len
    · obtain ⟨b, off, rfl, hb, hl, hm, hts, hc⟩ := (H.out.next hnx).cells (by omega)
      have ht : rs[k]? = some rs[k] := List.getElem?_eq_getElem (by omega)
      have HS : Hid (rs.take (k + 1) = rs.take k ++ [rs[k]]) := Lib.hid (List.take_succ_eq_append_getElem (by omega))
      obtain ⟨a', n, c, c0, hz⟩ := hc k _ ht
      have hzt := HTOT.out _ (List.getElem_mem (by omega : k < rs.length))
      generalize rs[k] = r at hz HS hzt
      have D := Lib.hid (toPairS a' n c r wr hz (by have := hz.len; omega))
      have hsm := Lib.hid hz.small
      have hlt2 : (k : Int) < (len : Int) := by omega
      clear ht hts hc hm hz hl
      go_wp2_with fail
      refine D.out.mono ?_
      rintro e wn ⟨u, rfl, ou, hbn⟩
      have B := hnx.trans (hbn.mono hnx.size)
      have O := hown.kept (grown_of_below hbn) (.inr (by simp [Value.ownBlock]))
      have hgt : w.heap.size < wr.heap.size := (World.ownsRow.lt hown w.heap.size (by simp [Value.ownBlock])).2
      have HIN : Hid (InnR (w.heap.size + 1) wn (rs.take k ++ [r]) (us ++ [u])) := Lib.hid (InnR.snoc (hx.out.2.next hbn) (fun v hv j hj => (hx.out.2.lt v hv j hj).2) hgt ou)
      obtain ⟨ua, uc, rfl, _⟩ := ou.is hsm.out
      clear hbn hown hnx c0 D ou
      have hxl : xs.length = len := by have := O.1; omega
      have e0 : wn.cell? ⟨w.heap.size, k, none⟩ = some (xs[k]'(by omega)) := by rw [O.cellAt _ (by omega), List.getElem?_eq_getElem (by omega)]
      have f0 := O.frozenAt k
      have O1 := (O.stored k (.slice ua r.length uc)).1
      have HX : Hid ((xs.set k (.slice ua r.length uc)).take (k + 1) = us ++ [.slice ua r.length uc]) := Lib.hid (setR _ hx.out.1 (by omega))
      have B3 := B.setCell (p := ⟨w.heap.size, k, none⟩) (Nat.le_refl _) (.slice ua r.length uc)
      have HI2 := Lib.hid (HIN.out.set (Nat.lt_succ_self _) k (.slice ua r.length uc))
      rw [← HS.out] at HI2
      generalize xs[k]'(by omega) = z0 at e0
      have O6 := Lib.hid O1
      clear O O1 hxl B HIN
      go_wp2_with fail
      go_roundw
      case rel => exact ⟨k + 1, by omega, by go_num, ⟨_, _, O6.out, Lib.hid ⟨HX.out, HI2.out⟩⟩, B3⟩
      case measure => simp [intOf]; omega
    · obtain rfl : k = len := by omega
      have e : rs.take k = rs := List.take_of_length_le (by rw [HT.out]; exact Nat.le_refl _)
      have HX : Hid (xs = us ∧ InnR (w.heap.size + 1) wr rs us) := Lib.hid (by
        have := hx.out
        have hxl : xs.length = k := by have := hown.1; omega
        rw [e, List.take_of_length_le (by omega)] at this
        exact this)
      go_wp2_with fail
      go_ret
      refine ⟨_, rfl, ⟨us, by rw [← HX.out.1, HT.out]; exact hown, ⟨HX.out.2.1, fun i u r hu hr => ownP_base (HX.out.2.2.1 i u r hu hr) (Nat.le_succ _), HX.out.2.2.2⟩, fun u hu j hj e2 => ?_⟩, hnx⟩
      have := (HX.out.2.lt u hu j hj).1
      simp [Value.ownBlock] at e2
      omega
end Go.Proofs.Ythnpchcfjkepaaa
/- The exact laws' own comparison of two slices of rows; texts copied. -/
namespace Go.Proofs.Ythnpchcfjkepaaa
open Go.RowKit Go.WideShapes
set_option maxRecDepth 100000 in
set_option maxHeartbeats 1600000 in
theorem eqRows (a b : Option Addr) (la ca lb cb : Nat) (rs : List RowV) (w : World) (ha : IsRows w a la ca rs) (hb : IsRows w b lb cb rs) (hs : la + totR rs ≤ 1048576) :
    Calls Try.prog 26 #[.slice a la ca, .slice b lb cb] w fun e w' => e = .returned (.bool true) ∧ Below w.heap.size w w' := by
  have hlb : lb = la := by rw [← ha.len, ← hb.len]
  subst hlb
  have HA := Lib.hid ha
  have HB := Lib.hid hb
  have HTOT : Hid (∀ r ∈ rs, r.length ≤ 1048576) := Lib.hid (fun r hr => by have := totR_mem hr; omega)
  have HT := Lib.hid ha.len
  clear ha hb
  go_enter Try.func26, Try.ntmps26
  go_wp2_with fail
  go_loopw [5] (fun i wr => ∃ k : Nat, k ≤ lb ∧ i = .int .i64 k ∧ Below w.heap.size w wr) (fun i _ => lb - (intOf i).toNat)
  case atStart => exact ⟨0, Nat.zero_le _, rfl, Below.refl _ _⟩
  case round =>
    obtain ⟨k, hk, rfl, hnx⟩ := hrel
    have hk6 : (0 : Int) ≤ (k : Int) := by omega
    by_cases hlt : k < lb
    · obtain ⟨x, off, rfl, hx, _, _, hts, hc⟩ := (HA.out.next hnx).cells (by omega)
      obtain ⟨y, off', rfl, hy, _, _, _, hd⟩ := (HB.out.next hnx).cells (by omega)
      have ht : rs[k]? = some rs[k] := List.getElem?_eq_getElem (by omega)
      obtain ⟨a1, n1, k1, c0, hz1⟩ := hc k _ ht
      obtain ⟨a2, n2, k2, d0, hz2⟩ := hd k _ ht
      have hzt := HTOT.out _ (List.getElem_mem (by omega : k < rs.length))
      generalize rs[k] = r at hz1 hz2 hzt
      have hn : n1 ≤ 1048576 := by have := hz1.len; omega
      have E := Lib.hid (fun (W : World) (h : Below wr.heap.size wr W) => eqPairS a1 a2 n1 k1 n2 k2 r W (hz1.next h) (hz2.next h) hn)
      have hlt2 : (k : Int) < (lb : Int) := by omega
      have l1 : x < wr.heap.size := hx
      have l2 : y < wr.heap.size := hy
      clear ht hts hc hd hz1 hz2
      go_wp2_with fail
      go_region_held3 (fun w' => w'.cell? ⟨x, off + k, none⟩ = some (.slice a1 n1 k1) ∧ w'.cell? ⟨y, off' + k, none⟩ = some (.slice a2 n2 k2))
        (first | go_keep | (go_split_ands; refine ⟨?_, ?_⟩ <;> (rw [ha4.cell (by first | (simp; done) | exact World.block_lt_of_cell? _ _ (by assumption))]; assumption)))
        (first | (go_at_call 62; refine (E.out _ (Below.drew (Below.refl _ _))).mono ?_; rintro e wa ⟨rfl, ha4⟩))
      have B : Below w.heap.size w wa := (Below.drew hnx).trans (ha4.mono hnx.size)
      clear ha4 hnx c0 d0 E
      go_wp2_with fail
      go_roundw
      case rel => exact ⟨k + 1, by omega, by go_num, B⟩
      case measure => simp [intOf]; omega
    · go_wp2_with fail
      go_ret
      exact ⟨rfl, hnx⟩
set_option maxRecDepth 100000 in
set_option maxHeartbeats 1600000 in
theorem toStrs (a : Option Addr) (len cap : Nat) (ts : List ByteArray) (w : World) (h : IsStrs w a len cap ts) (hs : len ≤ 1048576) :
    Calls Try.prog 42 #[.slice a len cap] w fun e w' => ∃ v, e = .returned v ∧ OwnS w.heap.size w' v ts ∧ Below w.heap.size w w' := by
  obtain ⟨i0, hi, hz0, hz1, hz2⟩ := info_parts infoStr
  have HT := Lib.hid h.len
  have H := Lib.hid h
  clear h
  go_enter Try.func42, Try.ntmps42
  go_wp2_with (at_make; refine wpList_make_full _ rfl _ _ 36 rfl w.heap.size 9 i0 _ 1 Try.underlying36 hi hz0 hz1 .i64 .i64 _ _ len rfl rfl rfl rfl ?c1 ?c2 (Nat.le_refl _) ?_)
  case c1 => rw [hz2]; omega
  case c2 => unfold maxLen; omega
  intro w0 hown0 hg0
  have hb0 : Below w.heap.size w w0 := (Below.refl _ _).grown hg0 (Nat.le_refl _) (by simp)
  clear hg0
  go_wp2_with fail
  go_loopw [4] (fun i wr => ∃ k : Nat, k ≤ len ∧ i = .int .i64 k ∧ (∃ xs : List Value, wr.ownsRow w.heap.size 9 1 (.slice (some ⟨w.heap.size, 0, none⟩) len len) len xs ∧ Hid (xs.take k = (ts.take k).map strV)) ∧ Below w.heap.size w wr) (fun i _ => len - (intOf i).toNat)
  case atStart => exact ⟨0, Nat.zero_le _, rfl, ⟨_, hown0, Lib.hid (by simp)⟩, hb0⟩
  case round =>
    obtain ⟨k, hk, rfl, ⟨xs, hown, hx⟩, hnx⟩ := hrel
    have hk6 : (0 : Int) ≤ (k : Int) := by omega
    by_cases hlt : k < len
    · obtain ⟨b, off, rfl, hb, hl, hm, hts, hc⟩ := (H.out.next hnx).cells (by omega)
      have ht : ts[k]? = some ts[k] := List.getElem?_eq_getElem (by omega)
      have HS : Hid (ts.take (k + 1) = ts.take k ++ [ts[k]]) := Lib.hid (List.take_succ_eq_append_getElem (by omega))
      have c0 := hc k _ ht
      generalize ts[k] = z at c0 HS
      clear ht hts hc hm
      have hlt2 : (k : Int) < (len : Int) := by omega
      have hxl : xs.length = len := by have := hown.1; omega
      have e0 : wr.cell? ⟨w.heap.size, k, none⟩ = some (xs[k]'(by omega)) := by rw [hown.cellAt _ (by omega), List.getElem?_eq_getElem (by omega)]
      have f0 := hown.frozenAt k
      have O1 := (hown.stored k (.string z)).1
      have HX : Hid ((xs.set k (.string z)).take (k + 1) = (ts.take (k + 1)).map strV) := Lib.hid (by
        rw [HS.out, List.map_append]; exact setR _ hx.out (by omega))
      have B3 := hnx.setCell (p := ⟨w.heap.size, k, none⟩) (Nat.le_refl _) (.string z)
      generalize xs[k]'(by omega) = z0 at e0
      clear hxl
      go_wp2_with fail
      go_roundw
      case rel => exact ⟨k + 1, by omega, by go_num, ⟨_, O1, HX⟩, B3⟩
      case measure => simp [intOf]; omega
    · have HX : Hid (xs = ts.map strV) := Lib.hid (by
        have := hx.out
        have hxl : xs.length = len := by have := hown.1; omega
        rwa [List.take_of_length_le (by omega), List.take_of_length_le (by rw [HT.out]; omega)] at this)
      go_wp2_with fail
      go_ret
      exact ⟨_, rfl, by unfold OwnS; rw [← HX.out, HT.out]; exact hown, hnx⟩
end Go.Proofs.Ythnpchcfjkepaaa
