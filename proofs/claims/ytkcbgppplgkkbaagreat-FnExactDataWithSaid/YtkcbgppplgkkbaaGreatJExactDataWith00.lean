/- The exact laws' own comparison of two slices of named graphs. -/
import Derived.Test.YtkcbgppplgkkbaaGreatNam
import Derived.Deep.RegionHeld3
import Derived.Test.YtkcbgppplgkkbaaGreatExK
import Derived.Test.YtkcbgppplgkkbaaGreatNamC
import Derived.Test.YtkcbgppplgkkbaaGreatNamZ
import Derived.Test.YtkcbgppplgkkbaaGreatClo
import Derived.Test.YtkcbgppplgkkbaaGreatDokS
import Derived.Test.YtkcbgppplgkkbaaGreatDsN
import Derived.Test.YtkcbgppplgkkbaaGreatDokI
namespace Go.Proofs.YtkcbgppplgkkbaaGreat
open Go.RowKit Go.WideShapes
set_option maxRecDepth 100000 in
set_option maxHeartbeats 1600000 in
theorem eqNam (s : ByteArray) (a b : Option Addr) (n c d : Nat) (ts : List Tri3) (w : World) (ha : IsTris w a n c ts) (hb : IsTris w b n d ts) (hn : n ≤ 1048576) :
    Calls Tryz.prog 27 #[.agg #[.string s, .slice a n c], .agg #[.string s, .slice b n d]] w fun e w' => e = .returned (.bool true) ∧ Below w.heap.size w w' := by
  obtain ⟨W1, hW1⟩ : ∃ W, w.alloc (.cells #[.string s, .slice a n c] 48) = W := ⟨_, rfl⟩
  obtain ⟨W2, hW2⟩ : ∃ W, W1.alloc (.cells #[.string s, .slice b n d] 48) = W := ⟨_, rfl⟩
  have z1 : W1.heap.size = w.heap.size + 1 := by rw [← hW1]; simp
  have B0 : Below w.heap.size w W2 := by
    rw [← hW2, ← hW1]; exact ((Below.refl w.heap.size w).alloc (Nat.le_refl _) _).alloc (by simp) _
  have X0 : NamK.Box2 W2 w.heap.size (.string s) (.slice a n c) 48 := by
    rw [← hW2, ← hW1]; exact (NamK.Box2.new w _ _ _).alloc _
  have Y0 : NamK.Box2 W2 (w.heap.size + 1) (.string s) (.slice b n d) 48 := by
    rw [← hW2, ← z1]; exact NamK.Box2.new W1 _ _ _
  have HH := Lib.hid (And.intro ha hb)
  have HW := Lib.hid (And.intro hW1 hW2)
  have EN : (s.toList != s.toList) = false := by simp
  have EQ : (s.toList == s.toList) = true := by simp
  obtain ⟨x0, x1⟩ := X0.cells
  obtain ⟨y0, y1⟩ := Y0.cells
  clear ha hb z1 hW1 hW2
  go_enter Tryz.func27, Tryz.ntmps27
  go_wp2_with fail
  rw [HW.out.1, HW.out.2]
  refine (eqTriS a b n c n d ts _ (HH.out.1.next B0) (HH.out.2.next B0) hn).mono ?_
  rintro e w1 ⟨rfl, hb⟩
  have B1 := B0.trans (hb.mono B0.size)
  clear hb B0 X0 Y0 x0 x1 y0 y1
  go_wp2_with fail
  go_ret
  exact ⟨rfl, B1⟩
set_option maxRecDepth 100000 in
set_option maxHeartbeats 1600000 in
theorem eqNams (a b : Option Addr) (la ca lb cb : Nat) (rs : List NamV) (w : World) (ha : IsNams w a la ca rs) (hb : IsNams w b lb cb rs) (hs : la + totN rs ≤ 1048576) :
    Calls Tryz.prog 11 #[.slice a la ca, .slice b lb cb] w fun e w' => e = .returned (.bool true) ∧ Below w.heap.size w w' := by
  have hlb : lb = la := by rw [← ha.len, ← hb.len]
  subst hlb
  have HA := Lib.hid ha
  have HB := Lib.hid hb
  have HTOT : Hid (∀ r ∈ rs, r.2.length ≤ 1048576) := Lib.hid (fun r hr => by have := totN_mem hr; omega)
  have HT := Lib.hid ha.len
  clear ha hb
  go_enter Tryz.func11, Tryz.ntmps11
  go_wp2_with fail
  go_loopw [5] (fun i wr => ∃ k : Nat, k ≤ lb ∧ i = .int .i64 k ∧ Below w.heap.size w wr) (fun i _ => lb - (intOf i).toNat)
  case atStart => exact ⟨0, Nat.zero_le _, rfl, Below.refl _ _⟩
  case round =>
    obtain ⟨k, hk, rfl, hnx⟩ := hrel
    have hk6 : (0 : Int) ≤ (k : Int) := by omega
    by_cases hlt : k < lb
    · obtain ⟨x, off, rfl, hx, _, _, hts, hc⟩ := (HA.out.next hnx).cells (by omega)
      obtain ⟨y, off', rfl, hy, _, _, _, hd⟩ := (HB.out.next hnx).cells (by omega)
      have ht : rs[k]? = some rs[k] := List.getElem?_eq_getElem (by omega)
      obtain ⟨a1, n1, k1, c0, c1, hz1, m0⟩ := hc k _ ht
      obtain ⟨a2, n2, k2, d0, d1, hz2, m1⟩ := hd k _ ht
      clear m0 m1
      have hzt := HTOT.out _ (List.getElem_mem (by omega : k < rs.length))
      generalize rs[k] = r at hz1 hz2 hzt c0 c1 d0 d1
      have hn : n1 ≤ 1048576 := by have := hz1.len; omega
      obtain rfl : n2 = n1 := by rw [← hz1.len, ← hz2.len]
      have E := Lib.hid (fun (W : World) (h : Below wr.heap.size wr W) => eqNam r.1 a1 a2 n2 k1 k2 r.2 W (hz1.next h) (hz2.next h) hn)
      have hlt2 : (k : Int) < (lb : Int) := by omega
      have l1 : x < wr.heap.size := hx
      have l2 : y < wr.heap.size := hy
      clear ht hts hc hd hz1 hz2
      go_wp2_with fail
      go_region_held3 (fun w' => w'.cell? ⟨x, off + k * 2, none⟩ = some (.string r.1) ∧ w'.cell? ⟨x, off + k * 2 + 1, none⟩ = some (.slice a1 n2 k1) ∧ w'.cell? ⟨y, off' + k * 2, none⟩ = some (.string r.1) ∧ w'.cell? ⟨y, off' + k * 2 + 1, none⟩ = some (.slice a2 n2 k2))
        (first | go_keep | (go_split_ands; refine ⟨?_, ?_, ?_, ?_⟩ <;> (rw [ha4.cell (by first | (simp; done) | exact World.block_lt_of_cell? _ _ (by assumption))]; assumption)))
        (first | (go_at_call 27; refine (E.out _ (Below.drew (Below.refl _ _))).mono ?_; rintro e wa ⟨rfl, ha4⟩))
      have B : Below w.heap.size w wa := (Below.drew hnx).trans (ha4.mono hnx.size)
      clear ha4 hnx c0 c1 d0 d1 E
      go_wp2_with fail
      go_roundw
      case rel => exact ⟨k + 1, by omega, by go_num, B⟩
      case measure => simp [intOf]; omega
    · go_wp2_with fail
      go_ret
      exact ⟨rfl, hnx⟩
end Go.Proofs.YtkcbgppplgkkbaaGreat
/- The exact laws' steps at slices of named graphs, told by where things lie. -/
namespace Go.Proofs.YtkcbgppplgkkbaaGreat
open Go.RowKit Go.WideShapes
def SmAllN (rs : List NamV) : Prop := ∀ r ∈ rs, r.1.size ≤ maxLen ∧ SmAll r.2
theorem IsNams.small {w : World} {a : Option Addr} {len cap : Nat} {rs : List NamV} (h : IsNams w a len cap rs) : SmAllN rs := by
  rcases h with ⟨_, _, _, rfl⟩ | ⟨x, _, _, _, _, h4⟩
  · intro r hr; simp at hr
  · intro r hr
    obtain ⟨i, hi⟩ := List.mem_iff_getElem?.1 hr
    obtain ⟨b, n, c, _, _, hp, hs⟩ := h4 i r hi
    exact ⟨hs, hp.small⟩
/-- The call owns a slice of these graphs, each graph in a block of its own. -/
def OwnNs (B : Nat) (w : World) (v : Value) (ts : List NamV) : Prop :=
  ∃ us, w.ownsRow B 48 2 v ts.length (flatN ts us) ∧ InnN B w ts us ∧ ∀ u ∈ us, ∀ j, u.ownBlock = some j → v.ownBlock ≠ some j
theorem InnN.base {B C : Nat} {w : World} {ts : List NamV} {us : List Value} (h : InnN B w ts us) (hc : C ≤ B) : InnN C w ts us := ⟨h.1, fun i u t hu ht => ownTN_base (h.2.1 i u t hu ht) hc, h.2.2⟩
theorem OwnN.ns {B : Nat} {w : World} {len : Nat} {ts : List NamV} (h : OwnN B w len ts) (hl : ts.length = len) : OwnNs B w (.slice (some ⟨B, 0, none⟩) len len) ts := by
  subst hl
  obtain ⟨us, ho, hi⟩ := h
  refine ⟨us, ho, hi.base (Nat.le_succ _), fun u hu j hj e => ?_⟩
  have := (hi.lt u hu j hj).1
  simp only [Value.ownBlock, Option.some.injEq] at e
  omega
theorem OwnNs.is {B : Nat} {w : World} {v : Value} {ts : List NamV} (h : OwnNs B w v ts) (hm : SmAllN ts) : ∃ a c, v = .slice a ts.length c ∧ IsNams w a ts.length c ts := by
  obtain ⟨us, ho, hi, _⟩ := h
  have h0 := ho
  obtain ⟨hln, hc⟩ := ho
  rcases hc with ⟨e, e2⟩ | ⟨g, cap, cur, e, _, _, h1, h2, _⟩
  · exact ⟨none, 0, by rw [e, e2], .inl ⟨rfl, e2, rfl, List.length_eq_zero_iff.1 e2⟩⟩
  · subst e
    refine ⟨_, _, rfl, .inr ⟨_, rfl, h1, h2, rfl, fun i t ht => ?_⟩⟩
    have hil : i < ts.length := (List.getElem?_eq_some_iff.1 ht).1
    have hu : us[i]? = some (us[i]'(by have := hi.1; omega)) := List.getElem?_eq_getElem _
    obtain ⟨f0, f1⟩ := flatN_at ts us hi.1 i t _ ht hu
    have oi := hi.2.1 i _ t hu ht
    obtain ⟨m0, ms⟩ := hm t (List.mem_of_getElem? ht)
    obtain ⟨a', c', ev, ii⟩ := oi.is ms
    rw [ev] at f1
    have e : ∀ j, (⟨g, 0, none⟩ : Addr).add (2 * i + j) = ⟨g, i * 2 + j, none⟩ := fun j => by rw [add_plain, Nat.zero_add, show 2 * i + j = i * 2 + j from by omega]
    have e0 : (⟨g, 0, none⟩ : Addr).add (2 * i) = ⟨g, i * 2, none⟩ := e 0
    refine ⟨a', t.2.length, c', ?_, ?_, ii, m0⟩
    · rw [e0]; exact (h0.cellAt _ (by omega)).trans f0
    · rw [e]; exact (h0.cellAt _ (by omega)).trans f1
/-- .. and all of it lies below C. -/
def OwnNC (B C : Nat) (v : Value) (ts : List NamV) (w : World) : Prop :=
  ∃ us, (w.ownsRow B 48 2 v ts.length (flatN ts us) ∧ ∀ j, v.ownBlock = some j → j < C) ∧ us.length = ts.length ∧
    (∀ (i : Nat) (u : Value) (t : NamV), us[i]? = some u → ts[i]? = some t → OwnC B C u t.2 w) ∧ us.Pairwise (fun u v => ∀ j, u.ownBlock = some j → v.ownBlock ≠ some j) ∧ ∀ u ∈ us, ∀ j, u.ownBlock = some j → v.ownBlock ≠ some j
theorem ownNC_lives {B C : Nat} {v : Value} {ts : List NamV} : Lives B C (OwnNC B C v ts) := by
  rintro w w' he ⟨us, h1, h2, h3, h4, h5⟩
  exact ⟨us, row_lives w w' he h1, h2, fun i u t hu ht => ownC_lives w w' he (h3 i u t hu ht), h4, h5⟩
theorem OwnNC.ns {B C : Nat} {v : Value} {ts : List NamV} {w : World} (h : OwnNC B C v ts w) : OwnNs B w v ts := by
  obtain ⟨us, h1, h2, h3, h4, h5⟩ := h
  exact ⟨us, h1.1, ⟨h2, fun i u t hu ht => (h3 i u t hu ht).1, h4⟩, h5⟩
theorem ownNC_new {w w' : World} {v : Value} {ts : List NamV} (h : OwnNs w.heap.size w' v ts) : Holds w.heap.size w'.heap.size w' (OwnNC w.heap.size w'.heap.size v ts) := by
  obtain ⟨us, h1, h2, h3⟩ := h
  exact ⟨ownNC_lives, Nat.le_refl _, us, ⟨h1, fun j hj => (World.ownsRow.lt h1 j hj).2⟩, h2.1, fun i u t hu ht => ⟨h2.2.1 i u t hu ht, fun j hj => (World.ownsRow.lt (h2.2.1 i u t hu ht) j hj).2⟩, h2.2.2, h3⟩
theorem OwnNC.read {B C : Nat} {w : World} {a : Option Addr} {n c : Nat} {ts : List NamV} (h : OwnNC B C (.slice a n c) ts w) (hm : SmAllN ts) (hl : ts.length = n) : IsNams w a n c ts := by
  subst hl
  obtain ⟨x, y, e, i⟩ := h.ns.is hm
  simp only [Value.slice.injEq, true_and] at e
  obtain ⟨rfl, rfl⟩ := e
  exact i
theorem exToN (a : Option Addr) (n c : Nat) (ts : List NamV) (w : World) (h : IsNams w a n c ts) (hs : n + totN ts ≤ 1048576) (hl : ts.length = n) :
    Calls Tryz.prog 8 #[.slice a n c] w fun e w' => ∃ a' c', e = .returned (.slice a' n c') ∧ Holds w.heap.size w'.heap.size w' (OwnNC w.heap.size w'.heap.size (.slice a' n c') ts) ∧ Below w.heap.size w w' :=
  (toNams a n c ts w h hs).mono fun _ _ ⟨he, ho, hb⟩ => ⟨_, _, he, ownNC_new (ho.ns hl), hb⟩
end Go.Proofs.YtkcbgppplgkkbaaGreat
/- A graph of a dataset by its name: the specification. -/
namespace Go.Proofs.YtkcbgppplgkkbaaGreat
open Go.RowKit Go.WideShapes
/-- The graph of that name; none: empty. -/
def graphAt : List NamV → ByteArray → List Tri3
  | [], _ => []
  | r :: rs, s => if r.1 = s then r.2 else graphAt rs s
theorem graphAt_hit {rs : List NamV} {s : ByteArray} {k : Nat} {r : NamV} (h : rs[k]? = some r) (hs : r.1 = s) : graphAt (rs.drop k) s = r.2 := by
  have hk := (List.getElem?_eq_some_iff.1 h).1
  have e : rs.drop k = r :: rs.drop (k + 1) := by
    rw [List.drop_eq_getElem_cons hk, (List.getElem?_eq_some_iff.1 h).2]
  rw [e]
  unfold graphAt
  rw [if_pos hs]
theorem graphAt_miss {rs : List NamV} {s : ByteArray} {k : Nat} {r : NamV} (h : rs[k]? = some r) (hs : r.1 ≠ s) : graphAt (rs.drop k) s = graphAt (rs.drop (k + 1)) s := by
  have hk := (List.getElem?_eq_some_iff.1 h).1
  have e : rs.drop k = r :: rs.drop (k + 1) := by
    rw [List.drop_eq_getElem_cons hk, (List.getElem?_eq_some_iff.1 h).2]
  rw [e]
  conv => lhs; unfold graphAt
  rw [if_neg hs]
def dataGraph (rs : List NamV) (s : ByteArray) : List Tri3 := if dataOk rs then graphAt rs s else []
theorem graphAt_mem : ∀ (rs : List NamV) (s : ByteArray), graphAt rs s = [] ∨ ∃ r ∈ rs, graphAt rs s = r.2
  | [], _ => .inl rfl
  | r :: rs, s => by
    unfold graphAt
    split
    · exact .inr ⟨r, by simp, rfl⟩
    · rcases graphAt_mem rs s with h | ⟨q, hq, h⟩
      · exact .inl h
      · exact .inr ⟨q, by simp [hq], h⟩
theorem dataGraph_len (rs : List NamV) (s : ByteArray) (h : totN rs ≤ 1048576) : (dataGraph rs s).length ≤ 1048576 := by
  unfold dataGraph
  split
  · rcases graphAt_mem rs s with e | ⟨r, hr, e⟩
    · rw [e]; simp
    · rw [e]; have := totN_mem hr; omega
  · simp
theorem dataGraph_small (rs : List NamV) (s : ByteArray) (h : SmAllN rs) : SmAll (dataGraph rs s) := by
  unfold dataGraph
  split
  · rcases graphAt_mem rs s with e | ⟨r, hr, e⟩
    · rw [e]; intro t ht; simp at ht
    · rw [e]; exact (h r hr).2
  · intro t ht; simp at ht
theorem bytes_is {a b : ByteArray} (h : a = b) : (a.toList == b.toList) = true := by subst h; simp
theorem bytes_not {a b : ByteArray} (h : a ≠ b) : (a.toList == b.toList) = false := by
  rw [beq_eq_false_iff_ne]
  intro e
  apply h
  have t : ∀ x : ByteArray, x.toList = x.data.toList := fun x => by
    conv => lhs; rw [← bs_of x]
    exact bs_list _
  rw [t, t] at e
  rw [← bs_of a, e, bs_of]
set_option maxRecDepth 100000 in
set_option maxHeartbeats 1600000 in
theorem specAt (a : Option Addr) (len cap : Nat) (ts : List NamV) (s : ByteArray) (w : World) (h : IsNams w a len cap ts) :
    Calls Tryz.prog 39 #[.slice a len cap, .string s] w fun e w' => ∃ z : Int, e = .returned (.int .i64 z) ∧ ((z = -1 ∧ graphAt ts s = []) ∨ ∃ (k : Nat) (r : NamV), z = k ∧ ts[k]? = some r ∧ graphAt ts s = r.2) ∧ Below w.heap.size w w' := by
  have hlen := h.maxl
  have H := Lib.hid h
  have HT := Lib.hid h.len
  clear h
  go_enter Tryz.func39, Tryz.ntmps39
  go_wp2_with fail
  go_loopw [5] (fun i wr => ∃ k : Nat, k ≤ len ∧ i = .int .i64 k ∧ Hid (graphAt ts s = graphAt (ts.drop k) s) ∧ Below w.heap.size w wr) (fun i _ => len - (intOf i).toNat)
  case atStart => exact ⟨0, Nat.zero_le _, rfl, Lib.hid rfl, Below.refl _ _⟩
  case round =>
    obtain ⟨k, hk, rfl, hg, hnx⟩ := hrel
    have hk6 : (0 : Int) ≤ (k : Int) := by omega
    by_cases hlt : k < len
    · have hk7 : (k : Int) < (len : Int) := by omega
      obtain ⟨b, off, rfl, hb, hl, hm, hts, hc⟩ := (H.out.next hnx).cells (by omega)
      have ht : ts[k]? = some (ts[k]'(by omega)) := List.getElem?_eq_getElem (by omega)
      obtain ⟨ga, gn, gc, c0, c1, hz, m0⟩ := hc k _ ht
      generalize ts[k]'(by omega) = r at ht c0 c1 hz m0
      by_cases hs : r.1 = s
      · have E := bytes_is hs
        have HG : Hid (graphAt ts s = r.2) := Lib.hid (by rw [hg.out, graphAt_hit ht hs])
        have HR := Lib.hid ht
        clear hts hc hm hz m0 c1 hs ht
        go_wp2_with fail
        go_ret
        exact ⟨k, rfl, .inr ⟨k, r, rfl, HR.out, HG.out⟩, hnx⟩
      · have E := bytes_not hs
        have HG : Hid (graphAt ts s = graphAt (ts.drop (k + 1)) s) := Lib.hid (by rw [hg.out, graphAt_miss ht hs])
        clear hts hc hm hz m0 c1 hs ht
        go_wp2_with fail
        go_roundw
        case rel => exact ⟨k + 1, by omega, by go_num, HG, hnx⟩
        case measure => simp [intOf]; omega
    · obtain rfl : k = len := by omega
      have HG : Hid (graphAt ts s = []) := Lib.hid (by rw [hg.out, List.drop_of_length_le (by rw [HT.out]; exact Nat.le_refl _)]; rfl)
      go_wp2_with fail
      go_ret
      exact ⟨-1, rfl, .inl ⟨rfl, HG.out⟩, hnx⟩
set_option maxRecDepth 100000 in
set_option maxHeartbeats 1600000 in
theorem specGraphAt (a : Option Addr) (len cap : Nat) (ts : List NamV) (s : ByteArray) (w : World) (h : IsNams w a len cap ts) (ht : totN ts ≤ 1048576) :
    Calls Tryz.prog 20 #[.slice a len cap, .string s] w fun e w' => ∃ v, e = .returned v ∧ OwnT w.heap.size w' v (graphAt ts s) ∧ Below w.heap.size w w' := by
  have H := Lib.hid h
  have HL := Lib.hid h.len
  have hlen := h.maxl
  have C := Lib.hid (specAt a len cap ts s w h)
  clear h
  go_enter Tryz.func20, Tryz.ntmps20
  go_wp2_with fail
  refine C.out.mono ?_
  rintro e w1 ⟨z, rfl, hz, hb1⟩
  rcases hz with ⟨rfl, hg⟩ | ⟨k, r, rfl, hr, hg⟩
  · have HG := Lib.hid hg
    have O0 : Hid (OwnT w1.heap.size (w1.alloc (.cells #[] 31)) (.slice (some ⟨w1.heap.size, 0, none⟩) 0 0) []) := Lib.hid (World.ownsRow_lit (size := 3) (e := 31) w1 #[] 0 (Nat.le_refl _) (by decide) rfl)
    clear hg
    go_wp2_with fail
    go_ret
    exact ⟨_, rfl, by rw [HG.out]; exact own_base O0.out hb1.size, hb1.alloc hb1.size _⟩
  · have hkl : k < len := by rw [← HL.out]; exact (List.getElem?_eq_some_iff.1 hr).1
    have hk6 : (0 : Int) ≤ (k : Int) := by omega
    have hk7 : (k : Int) < (len : Int) := by omega
    have hk8 : ¬ (k : Int) < 0 := by omega
    have HG := Lib.hid hg
    have B2 := hb1.alloc hb1.size (.cells #[] 31)
    obtain ⟨b, off, rfl, hb, hl, hm, hts, hc⟩ := (H.out.next B2).cells (by omega)
    obtain ⟨ga, gn, gc, c0, c1, hz, m0⟩ := hc k _ hr
    have hgn : gn ≤ 1048576 := by have := hz.len; have := totN_mem (List.mem_of_getElem? hr); omega
    have CE := cells_new w1 #[] 31
    have HZ := Lib.hid hz
    have HC := Lib.hid CE.now
    clear hts hc hm m0 c0 hr hg hz CE
    go_wp2_with (at_builtin; refine wpList_copyN rfl _ _ rfl w1.heap.size rfl HC.out ga gn gc r.2 rfl HZ.out hgn ?_)
    intro v' w2 j hj h3 h4
    have hjw : w.heap.size ≤ j := by
      have := hb1.size
      rcases hj.out with rfl | rfl
      · exact this
      · omega
    have HO : Hid (OwnT w.heap.size w2 v' r.2) := Lib.hid (own_base h3.now.1 hjw)
    have B4 := Lib.hid (B2.trans (h4.below B2.size hb1.size))
    clear hj h3 h4
    go_wp2_with fail
    go_ret
    exact ⟨_, rfl, by rw [HG.out]; exact HO.out, B4.out⟩
end Go.Proofs.YtkcbgppplgkkbaaGreat
/- A dataset as the program keeps it: a map from names to graphs, each copied; DataGraph. -/
namespace Go.Proofs.YtkcbgppplgkkbaaGreat
open Go.RowKit Go.WideShapes Go.Maps
theorem graphAt_nodup : ∀ (ts : List NamV), (ts.map nmT).Nodup → ∀ t ∈ ts, graphAt ts t.1 = t.2
  | [], _, t, h => by simp at h
  | r :: rs, hn, t, h => by
    rw [List.map_cons, List.nodup_cons] at hn
    unfold graphAt
    rcases List.mem_cons.1 h with rfl | h
    · rw [if_pos rfl]
    · rw [if_neg (fun e => hn.1 (List.mem_map.2 ⟨t, h, by unfold nmT; rw [e]⟩))]
      exact graphAt_nodup rs hn.2 t h
theorem graphAt_none : ∀ (ts : List NamV) (s : ByteArray), s.data.toList ∉ ts.map nmT → graphAt ts s = []
  | [], _, _ => rfl
  | r :: rs, s, h => by
    rw [List.map_cons, List.mem_cons, not_or] at h
    unfold graphAt
    rw [if_neg (fun e => h.1 (by unfold nmT; rw [e]))]
    exact graphAt_none rs s h.2
theorem InnN.grow {B : Nat} {w w' : World} {ts : List NamV} {us : List Value} {row : Option Nat} (h : InnN B w ts us) (hg : w.grownBy w' row) (hne : ∀ u ∈ us, u.ownBlock = none ∨ u.ownBlock ≠ row) : InnN B w' ts us :=
  ⟨h.1, fun i u t hu ht => World.ownsRow.kept (h.2.1 i u t hu ht) hg (hne u (List.mem_of_getElem? hu)), h.2.2⟩
/-- A map's block is no row's. -/
theorem row_no_map {B b e k n : Nat} {w : World} {v : Value} {xs : List Value} (h : w.ownsRow B e k v n xs) (hb : ∃ es c, w.heap[b]? = some (.map es c)) : v.ownBlock = none ∨ v.ownBlock ≠ some b := by
  obtain ⟨es, c, hb⟩ := hb
  rcases h.2 with ⟨rfl, _⟩ | ⟨g, cap, cur, rfl, _, hh, _⟩
  · exact .inl rfl
  · refine .inr fun e => ?_
    simp only [Value.ownBlock, Option.some.injEq] at e
    subst e
    rw [hh] at hb
    cases hb
theorem InnN.noMap {B b : Nat} {w : World} {ts : List NamV} {us : List Value} (h : InnN B w ts us) (hb : ∃ es c, w.heap[b]? = some (.map es c)) : ∀ u ∈ us, u.ownBlock = none ∨ u.ownBlock ≠ some b := by
  intro u hu
  obtain ⟨i, hi⟩ := List.mem_iff_getElem?.1 hu
  have hil := (List.getElem?_eq_some_iff.1 hi).1
  exact row_no_map (h.2.1 i u _ hi (List.getElem?_eq_getElem (by have := h.1; omega : i < ts.length))) hb
def DsPost (B : Nat) (ts : List NamV) (w : World) (e : Ending) (w' : World) : Prop :=
  ∃ b us, e = .returned (.tuple #[.map (some b), .bool true]) ∧ (OwnMapD w' b ts.length (kvsD ts us) ∧ InnN B w' ts us) ∧ B ≤ b ∧ Below B w w'
set_option maxRecDepth 100000 in
set_option maxHeartbeats 3200000 in
theorem implDatasetNo (a : Option Addr) (len cap : Nat) (ts : List NamV) (w : World) (h : IsNams w a len cap ts) (hs : SmN ts) (hq : dataOk ts = false) :
    Calls Tryz.prog 23 #[.slice a len cap] w fun e w' => e = .returned (.tuple #[.map none, .bool false]) ∧ Below w.heap.size w w' := by
  have C := implDataOk a len cap ts w h hs
  rw [hq] at C
  have HC := Lib.hid C
  clear C h
  go_enter Tryz.func23, Tryz.ntmps23
  go_wp2_with fail
  refine HC.out.mono ?_
  rintro e w1 ⟨rfl, hb1⟩
  go_wp2_with fail
  go_ret2
  exact ⟨rfl, hb1⟩
set_option maxRecDepth 100000 in
set_option maxHeartbeats 3200000 in
theorem implDatasetOf (a : Option Addr) (len cap : Nat) (ts : List NamV) (w : World) (h : IsNams w a len cap ts) (hs : SmN ts) (hl : totN ts ≤ 1048576) (hq : dataOk ts = true) :
    Calls Tryz.prog 23 #[.slice a len cap] w (DsPost w.heap.size ts w) := by
  have C := implDataOk a len cap ts w h hs
  rw [hq] at C
  obtain ⟨h6, hri⟩ := dataOk_parts hq
  have HRI := Lib.hid hri
  have HC0 := Lib.hid C
  have HT := Lib.hid h.len
  have H := Lib.hid h
  have HSM := Lib.hid hs
  have hmm := @run_makeMap Tryz.prog
  have h6' : len ≤ 6 := by rw [← h.len]; exact h6
  clear C h hri hs hq h6
  go_enter Tryz.func23, Tryz.ntmps23
  go_wp2_with fail
  refine HC0.out.mono ?_
  rintro e w1 ⟨rfl, hb1⟩
  have hz1 := hb1.size
  have M0 := Lib.hid (OwnMapD.made w1)
  have B0 : Below w.heap.size w (w1.alloc (.map #[] 0)) := hb1.trans (((Below.refl w1.heap.size w1).alloc (Nat.le_refl _) (.map #[] 0)).mono hb1.size)
  go_wp2_with fail
  go_loopw [13] (fun i wr => ∃ (k : Nat) (us : List Value), k ≤ len ∧ i = .int .i64 k ∧ Hid (OwnMapD wr w1.heap.size k (kvsD (ts.take k) us) ∧ InnN w.heap.size wr (ts.take k) us) ∧ Below w.heap.size w wr) (fun i _ => len - (intOf i).toNat)
  case atStart => exact ⟨0, [], Nat.zero_le _, rfl, Lib.hid ⟨M0.out, InnN.nil _ _⟩, B0⟩
  case round =>
    obtain ⟨k, us, hk, rfl, HQ, hnx⟩ := hrel
    clear M0 B0
    have hk6 : (0 : Int) ≤ (k : Int) := by omega
    by_cases hlt : k < len
    · have hk7 : (k : Int) < (len : Int) := by omega
      obtain ⟨b, off, rfl, hb, hll, hm, hts, hc⟩ := (H.out.next hnx).cells (by omega)
      have ht : ts[k]? = some (ts[k]'(by omega)) := List.getElem?_eq_getElem (by omega)
      have HK : Hid (ts.take (k + 1) = ts.take k ++ [ts[k]'(by omega)]) := Lib.hid (List.take_succ_eq_append_getElem (by omega))
      obtain ⟨ga, gn, gc, c0, c1, hz, m0⟩ := hc k _ ht
      have htot := totN_mem (List.mem_of_getElem? ht)
      have HN := Lib.hid (rising_new HRI.out ht)
      have HSZ := HSM.out _ (List.mem_of_getElem? ht)
      generalize ts[k]'(by omega) = t at ht HK c0 c1 hz m0 htot HN HSZ
      obtain ⟨s, g⟩ := t
      simp only at c0 c1 hz m0 htot
      have hgn : gn ≤ 1048576 := by have := hz.len; omega
      have T0 := NamK.Box2.new wr (.string s) (.slice ga gn gc) 48
      have BW := (Below.refl wr.heap.size wr).alloc (Nat.le_refl _) (.cells #[.string s, .slice ga gn gc] 48)
      have HC : Hid (∀ W, Below wr.heap.size wr W → Calls Tryz.prog 42 #[.slice ga gn gc] W fun e w' => ∃ v, e = .returned v ∧ OwnT W.heap.size w' v g ∧ Below W.heap.size W w') := Lib.hid (fun W hW => implCloneN ga gn gc g W (hz.next hW) hgn)
      have hs2 : s.size ≤ maxLen := m0
      have hkm : k < maxLen := by unfold maxLen; omega
      clear ht hts hc hm hz m0 htot HSZ
      go_wp2_with fail
      refine wp_region_held_drew (S := (fun w' => w'.cell? ⟨wr.heap.size, 0, none⟩ = some (.string s) ∧ w'.cell? ⟨wr.heap.size, 1, none⟩ = some (.slice ga gn gc))) (by kernel_rfl) ?_ (fun hHeld => ?_)
      · exact T0.drew.cells
      refine wpAnyH_take (i := 0) (v := ?_) rfl (by kernel_rfl) (by kernel_rfl) (by kernel_rfl) (fun _ _ _ h => h) (Or.inl ⟨by kernel_rfl, ?_⟩) (by assumption) ?_
      rotate_left
      · intro w hSw; (try dsimp only at hSw); go_simp; try with_reducible rfl
      refine wpAnyH_take (i := 1) (v := ?_) rfl (by kernel_rfl) (by kernel_rfl) (by kernel_rfl) (fun _ _ _ h => h) (Or.inl ⟨by kernel_rfl, ?_⟩) (by assumption) ?_
      rotate_left
      · intro w hSw; (try dsimp only at hSw); go_simp; try with_reducible rfl
      refine wpAnyH_take (i := 2) (v := ?_) rfl (by kernel_rfl) (by kernel_rfl) (by kernel_rfl) (fun _ _ _ h => h) (Or.inl ⟨by kernel_rfl, ?_⟩) (by assumption) ?_
      rotate_left
      · intro w hSw; (try dsimp only at hSw); go_simp; try with_reducible rfl
      refine wpAnyH_take (i := 3) (v := ?_) rfl (by kernel_rfl) (by kernel_rfl) (by kernel_rfl) (fun _ _ _ h => h) (Or.inl ⟨by kernel_rfl, ?_⟩) (by assumption) ?_
      rotate_left
      · intro w hSw; (try dsimp only at hSw); go_simp; try with_reducible rfl
      refine wpAnyH_take (i := 4) (v := ?_) rfl (by kernel_rfl) (by kernel_rfl) (by kernel_rfl) (fun _ _ _ h => h) (Or.inl ⟨by kernel_rfl, ?_⟩) (by assumption) ?_
      rotate_left
      · intro w hSw; (try dsimp only at hSw); go_simp; try with_reducible rfl
      refine wpAnyH_ready (rs := [5]) (by kernel_rfl) (by simp) ?_
      refine AllReadyH.cons rfl (fun K hK => ?_) AllReadyH.nil
      go_simp
      refine (HC.out _ (by exact BW.drew)).mono ?_
      rintro e w5 ⟨u, rfl, ou, hb5⟩
      go_wp2_with fail
      clear hHeld
      refine hK.out _ _ ?_ (fun hHeld => ?_)
      · exact (T0.drew.next hb5).cells
      clear hK K
      refine wpAnyH_ready (rs := [6]) (by kernel_rfl) (by simp) ?_
      refine AllReadyH.cons rfl (fun K hK => ?_) AllReadyH.nil
      rw [if_pos (by rfl)]
      have B5 := (BW.drew).trans (hb5.mono BW.size)
      have M5 := HQ.out.1.next B5
      refine upon_putD _ _ _ _ (by rfl) w1.heap.size k (kvsD (ts.take k) us) (by rfl) M5 hkm s hs2 (by rfl) u (by rfl) ?_
      intro w7 M7 g7
      have T7 : NamK.Box2 w7 wr.heap.size (.string s) (.slice ga gn gc) 48 := by
        have T5 := T0.drew.next hb5
        refine (g7.block _ T5.lt (fun e => ?_)).trans T5
        obtain ⟨es, c, hmm⟩ := M5.isMap
        simp only [Option.some.injEq] at e
        rw [← e, T5] at hmm
        cases hmm
      clear hHeld
      refine hK.out _ _ ?_ (fun hHeld => ?_)
      · exact T7.cells
      clear hK K
      refine wpAnyH_done (by kernel_rfl) ?_ _
      try simp only [Act.put, List.getElem_toArray, List.getElem_cons_zero, List.getElem_cons_succ]
      have N5 := hnx.trans (B5.mono hnx.size)
      have I5 : InnN w.heap.size w5 (ts.take k ++ [(s, g)]) (us ++ [u]) := by
        have I4 := HQ.out.2.next (((Below.refl wr.heap.size wr).alloc (Nat.le_refl _) (.cells #[.string s, .slice ga gn gc] 48)).drew)
        have hl4 := HQ.out.2.lt
        exact InnN.snoc (I4.next hb5) (fun v hv j hj => by have := (hl4 v hv j hj).2; exact Nat.lt_of_lt_of_le this (Nat.le_of_lt T0.lt)) (Nat.le_trans hnx.size (Nat.le_of_lt T0.lt)) ou
      have I7 := I5.grow g7 (I5.noMap M5.isMap)
      have N7 := N5.grown g7 N5.size (fun j hj => by cases hj; exact hz1)
      have hlen : us.length = (ts.take k).length := HQ.out.2.1
      have M8 : OwnMapD w7 w1.heap.size (k + 1) (kvsD (ts.take (k + 1)) (us ++ [u])) := by
        rw [HK.out, kvsD_snoc _ _ _ _ hlen]
        have := addD_new (v := u) (show nmT (s, g) ∉ (kvsD (ts.take k) us).map Prod.fst by rw [kvsD_keys _ _ hlen]; exact HN.out)
        rw [← this]
        exact M7
      rw [← HK.out] at I7
      have HQ2 := Lib.hid (And.intro M8 I7)
      clear hHeld HQ M5 M7 g7 T7 T0 BW B5 N5 I5 hb5 ou M8 I7 hnx c0 c1 HC
      go_wp2_with fail
      go_roundw
      case rel => exact ⟨k + 1, us ++ [u], by omega, by go_num, HQ2, N7⟩
      case measure => simp [intOf]; omega
    · obtain rfl : k = len := by omega
      have HF : Hid (OwnMapD wr w1.heap.size ts.length (kvsD ts us) ∧ InnN w.heap.size wr ts us) := Lib.hid (by
        have := HQ.out
        rw [List.take_of_length_le (by rw [HT.out]; exact Nat.le_refl _)] at this
        rw [HT.out]
        exact this)
      clear HQ
      go_wp2_with fail
      go_ret2
      exact ⟨_, us, rfl, HF.out, hz1, hnx⟩
end Go.Proofs.YtkcbgppplgkkbaaGreat
