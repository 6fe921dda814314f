/- A graph of a dataset by its name: the specification. -/
import Derived.Test.YtkcbgppplgkkbaaClo
import Derived.Test.YtkcbgppplgkkbaaDokS
import Derived.Test.YtkcbgppplgkkbaaExN
namespace Go.Proofs.Ytkcbgppplgkkbaa
open Go.RowKit Go.WideShapes
/-- The graph of that name; none: empty. -/
def graphAt : List NamV → ByteArray → List Tri3
  | [], _ => []
  | r :: rs, s => if r.1 = s then r.2 else graphAt rs s
theorem graphAt_hit {rs : List NamV} {s : ByteArray} {k : Nat} {r : NamV} (h : rs[k]? = some r) (hs : r.1 = s) : graphAt (rs.drop k) s = r.2 := by
  have hk := (List.getElem?_eq_some_iff.1 h).1
  have e : rs.drop k = r :: rs.drop (k + 1) := by
    rw [List.drop_eq_getElem_cons hk, (List.getElem?_eq_some_iff.1 h).2]
  rw [e]
  unfold graphAt
  rw [if_pos hs]
theorem graphAt_miss {rs : List NamV} {s : ByteArray} {k : Nat} {r : NamV} (h : rs[k]? = some r) (hs : r.1 ≠ s) : graphAt (rs.drop k) s = graphAt (rs.drop (k + 1)) s := by
  have hk := (List.getElem?_eq_some_iff.1 h).1
  have e : rs.drop k = r :: rs.drop (k + 1) := by
    rw [List.drop_eq_getElem_cons hk, (List.getElem?_eq_some_iff.1 h).2]
  rw [e]
  conv => lhs; unfold graphAt
  rw [if_neg hs]
def dataGraph (rs : List NamV) (s : ByteArray) : List Tri3 := if dataOk rs then graphAt rs s else []
theorem graphAt_mem : ∀ (rs : List NamV) (s : ByteArray), graphAt rs s = [] ∨ ∃ r ∈ rs, graphAt rs s = r.2
  | [], _ => .inl rfl
  | r :: rs, s => by
    unfold graphAt
    split
    · exact .inr ⟨r, by simp, rfl⟩
    · rcases graphAt_mem rs s with h | ⟨q, hq, h⟩
      · exact .inl h
      · exact .inr ⟨q, by simp [hq], h⟩
theorem dataGraph_len (rs : List NamV) (s : ByteArray) (h : totN rs ≤ 1048576) : (dataGraph rs s).length ≤ 1048576 := by
  unfold dataGraph
  split
  · rcases graphAt_mem rs s with e | ⟨r, hr, e⟩
    · rw [e]; simp
    · rw [e]; have := totN_mem hr; omega
  · simp
theorem dataGraph_small (rs : List NamV) (s : ByteArray) (h : SmAllN rs) : SmAll (dataGraph rs s) := by
  unfold dataGraph
  split
  · rcases graphAt_mem rs s with e | ⟨r, hr, e⟩
    · rw [e]; intro t ht; simp at ht
    · rw [e]; exact (h r hr).2
  · intro t ht; simp at ht
theorem bytes_is {a b : ByteArray} (h : a = b) : (a.toList == b.toList) = true := by subst h; simp
theorem bytes_not {a b : ByteArray} (h : a ≠ b) : (a.toList == b.toList) = false := by
  rw [beq_eq_false_iff_ne]
  intro e
  apply h
  have t : ∀ x : ByteArray, x.toList = x.data.toList := fun x => by
    conv => lhs; rw [← bs_of x]
    exact bs_list _
  rw [t, t] at e
  rw [← bs_of a, e, bs_of]
set_option maxRecDepth 100000 in
set_option maxHeartbeats 1600000 in
theorem specAt (a : Option Addr) (len cap : Nat) (ts : List NamV) (s : ByteArray) (w : World) (h : IsNams w a len cap ts) :
    Calls Try.prog 43 #[.slice a len cap, .string s] w fun e w' => ∃ z : Int, e = .returned (.int .i64 z) ∧ ((z = -1 ∧ graphAt ts s = []) ∨ ∃ (k : Nat) (r : NamV), z = k ∧ ts[k]? = some r ∧ graphAt ts s = r.2) ∧ Below w.heap.size w w' := by
  have hlen := h.maxl
  have H := Lib.hid h
  have HT := Lib.hid h.len
  clear h
  go_enter Try.func43, Try.ntmps43
  go_wp2_with fail
  go_loopw [5] (fun i wr => ∃ k : Nat, k ≤ len ∧ i = .int .i64 k ∧ Hid (graphAt ts s = graphAt (ts.drop k) s) ∧ Below w.heap.size w wr) (fun i _ => len - (intOf i).toNat)
  case atStart => exact ⟨0, Nat.zero_le _, rfl, Lib.hid rfl, Below.refl _ _⟩
  case round =>
    obtain ⟨k, hk, rfl, hg, hnx⟩ := hrel
    have hk6 : (0 : Int) ≤ (k : Int) := by omega
    by_cases hlt : k < len
    · have hk7 : (k : Int) < (len : Int) := by omega
      obtain ⟨b, off, rfl, hb, hl, hm, hts, hc⟩ := (H.out.next hnx).cells (by omega)
      have ht : ts[k]? = some (ts[k]'(by omega)) := List.getElem?_eq_getElem (by omega)
      obtain ⟨ga, gn, gc, c0, c1, hz, m0⟩ := hc k _ ht
      generalize ts[k]'(by omega) = r at ht c0 c1 hz m0
      by_cases hs : r.1 = s
      · have E := bytes_is hs
        have HG : Hid (graphAt ts s = r.2) := Lib.hid (by rw [hg.out, graphAt_hit ht hs])
        have HR := Lib.hid ht
        clear hts hc hm hz m0 c1 hs ht
        go_wp2_with fail
        go_ret
        exact ⟨k, rfl, .inr ⟨k, r, rfl, HR.out, HG.out⟩, hnx⟩
      · have E := bytes_not hs
        have HG : Hid (graphAt ts s = graphAt (ts.drop (k + 1)) s) := Lib.hid (by rw [hg.out, graphAt_miss ht hs])
        clear hts hc hm hz m0 c1 hs ht
        go_wp2_with fail
        go_roundw
        case rel => exact ⟨k + 1, by omega, by go_num, HG, hnx⟩
        case measure => simp [intOf]; omega
    · obtain rfl : k = len := by omega
      have HG : Hid (graphAt ts s = []) := Lib.hid (by rw [hg.out, List.drop_of_length_le (by rw [HT.out]; exact Nat.le_refl _)]; rfl)
      go_wp2_with fail
      go_ret
      exact ⟨-1, rfl, .inl ⟨rfl, HG.out⟩, hnx⟩
set_option maxRecDepth 100000 in
set_option maxHeartbeats 1600000 in
theorem specGraphAt (a : Option Addr) (len cap : Nat) (ts : List NamV) (s : ByteArray) (w : World) (h : IsNams w a len cap ts) (ht : totN ts ≤ 1048576) :
    Calls Try.prog 26 #[.slice a len cap, .string s] w fun e w' => ∃ v, e = .returned v ∧ OwnT w.heap.size w' v (graphAt ts s) ∧ Below w.heap.size w w' := by
  have H := Lib.hid h
  have HL := Lib.hid h.len
  have hlen := h.maxl
  have C := Lib.hid (specAt a len cap ts s w h)
  clear h
  go_enter Try.func26, Try.ntmps26
  go_wp2_with fail
  refine C.out.mono ?_
  rintro e w1 ⟨z, rfl, hz, hb1⟩
  rcases hz with ⟨rfl, hg⟩ | ⟨k, r, rfl, hr, hg⟩
  · have HG := Lib.hid hg
    have O0 : Hid (OwnT w1.heap.size (w1.alloc (.cells #[] 53)) (.slice (some ⟨w1.heap.size, 0, none⟩) 0 0) []) := Lib.hid (World.ownsRow_lit (size := 3) (e := 53) w1 #[] 0 (Nat.le_refl _) (by decide) rfl)
    clear hg
    go_wp2_with fail
    go_ret
    exact ⟨_, rfl, by rw [HG.out]; exact own_base O0.out hb1.size, hb1.alloc hb1.size _⟩
  · have hkl : k < len := by rw [← HL.out]; exact (List.getElem?_eq_some_iff.1 hr).1
    have hk6 : (0 : Int) ≤ (k : Int) := by omega
    have hk7 : (k : Int) < (len : Int) := by omega
    have hk8 : ¬ (k : Int) < 0 := by omega
    have HG := Lib.hid hg
    have B2 := hb1.alloc hb1.size (.cells #[] 53)
    obtain ⟨b, off, rfl, hb, hl, hm, hts, hc⟩ := (H.out.next B2).cells (by omega)
    obtain ⟨ga, gn, gc, c0, c1, hz, m0⟩ := hc k _ hr
    have hgn : gn ≤ 1048576 := by have := hz.len; have := totN_mem (List.mem_of_getElem? hr); omega
    have CE := cells_new w1 #[] 53
    have HZ := Lib.hid hz
    have HC := Lib.hid CE.now
    clear hts hc hm m0 c0 hr hg hz CE
    go_wp2_with (at_builtin; refine wpList_copyN rfl _ _ rfl w1.heap.size rfl HC.out ga gn gc r.2 rfl HZ.out hgn ?_)
    intro v' w2 j hj h3 h4
    have hjw : w.heap.size ≤ j := by
      have := hb1.size
      rcases hj.out with rfl | rfl
      · exact this
      · omega
    have HO : Hid (OwnT w.heap.size w2 v' r.2) := Lib.hid (own_base h3.now.1 hjw)
    have B4 := Lib.hid (B2.trans (h4.below B2.size hb1.size))
    clear hj h3 h4
    go_wp2_with fail
    go_ret
    exact ⟨_, rfl, by rw [HG.out]; exact HO.out, B4.out⟩
set_option maxRecDepth 100000 in
set_option maxHeartbeats 1600000 in
theorem specDataGraph (a : Option Addr) (len cap : Nat) (ts : List NamV) (s : ByteArray) (w : World) (h : IsNams w a len cap ts) (hs : SmN ts) (ht : totN ts ≤ 1048576) :
    Calls Try.prog 11 #[.slice a len cap, .string s] w fun e w' => ∃ v, e = .returned v ∧ OwnT w.heap.size w' v (dataGraph ts s) ∧ Below w.heap.size w w' := by
  have C := specDataOk a len cap ts w h hs
  have H := Lib.hid h
  clear h
  cases hq : dataOk ts
  · rw [hq] at C
    have HC := Lib.hid C
    have HG : Hid (dataGraph ts s = []) := Lib.hid (by unfold dataGraph; rw [hq]; rfl)
    clear C hq
    go_enter Try.func11, Try.ntmps11
    go_wp2_with fail
    refine HC.out.mono ?_
    rintro e w1 ⟨rfl, hb1⟩
    have O0 : Hid (OwnT w1.heap.size (w1.alloc (.cells #[] 53)) (.slice (some ⟨w1.heap.size, 0, none⟩) 0 0) []) := Lib.hid (World.ownsRow_lit (size := 3) (e := 53) w1 #[] 0 (Nat.le_refl _) (by decide) rfl)
    go_wp2_with fail
    go_ret
    exact ⟨_, rfl, by rw [HG.out]; exact own_base O0.out hb1.size, hb1.alloc hb1.size _⟩
  · rw [hq] at C
    have HC := Lib.hid C
    have HG : Hid (dataGraph ts s = graphAt ts s) := Lib.hid (by unfold dataGraph; rw [hq]; rfl)
    clear C hq
    go_enter Try.func11, Try.ntmps11
    go_wp2_with fail
    refine HC.out.mono ?_
    rintro e w1 ⟨rfl, hb1⟩
    go_wp2_with fail
    refine (specGraphAt a len cap ts s w1 (H.out.next hb1) ht).mono ?_
    rintro e w2 ⟨v, rfl, o2, hb2⟩
    have HO : Hid (OwnT w.heap.size w2 v (graphAt ts s)) := Lib.hid (own_base o2 hb1.size)
    clear o2
    go_wp2_with fail
    go_ret
    exact ⟨_, rfl, by rw [HG.out]; exact HO.out, hb1.trans (hb2.mono hb1.size)⟩
end Go.Proofs.Ytkcbgppplgkkbaa
