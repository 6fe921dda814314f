/- What the drawn prefixes are: a short list of short texts, in a slice of the call's own. -/
import Derived.Test.YtdhieemalhadmabRow
import Derived.Test.YtdhieemalhadmabExactP2
import Derived.Maps.AppendAt
namespace Go.Proofs.Ytdhieemalhadmab
open Go.RowKit Go.WideShapes
theorem bld_old' {w : World} {b : Nat} {c : Array Value} {T : TypeId} (h : w.heap[b]? = some (.cells c T (0, 0))) : b < w.heap.size := by
  rcases Nat.lt_or_ge b w.heap.size with g | g
  · exact g
  · rw [Array.getElem?_eq_none g] at h; simp at h
def SmD (ts : List Pre2) : Prop := ts.length ≤ 5 ∧ ∀ t ∈ ts, t.1.size ≤ 4 ∧ t.2.size ≤ 4
def allPre : Array Value := #[.string ⟨#[101]⟩, .string ⟨#[101, 58]⟩, .string ⟨#[112]⟩, .string ⟨#[115]⟩, .string ⟨#[120]⟩, .string ⟨#[101]⟩, .string ⟨#[122]⟩, .string ⟨#[115, 97]⟩]
theorem allPre_at {w : World} {A : Nat} (h : w.heap[A]? = some (.cells allPre 30 (0, 0))) : ∀ k, k < 4 → ∃ p : Pre2, p.1.size ≤ 4 ∧ p.2.size ≤ 4 ∧ w.cell? ⟨A, k * 2, none⟩ = some (.string p.1) ∧ w.cell? ⟨A, k * 2 + 1, none⟩ = some (.string p.2) := by
  intro k hk
  have e : ∀ j, w.cell? ⟨A, j, none⟩ = allPre[j]? := fun j => by simp [World.cell?, h]
  rw [e, e]
  match k, hk with
  | 0, _ => exact ⟨(_, _), by decide, by decide, rfl, rfl⟩
  | 1, _ => exact ⟨(_, _), by decide, by decide, rfl, rfl⟩
  | 2, _ => exact ⟨(_, _), by decide, by decide, rfl, rfl⟩
  | 3, _ => exact ⟨(_, _), by decide, by decide, rfl, rfl⟩
theorem ownP_snoc {B : Nat} {w : World} {v : Value} {ts : List Pre2} {p : Pre2} (h : w.ownsRow B 30 2 v (ts.length + 1) (flatP ts ++ [.string p.1, .string p.2])) : OwnP B w v (ts ++ [p]) := by
  unfold OwnP; rw [flatP_snoc, List.length_append]; exact h
theorem grown_far {a b c : World} {row r : Option Nat} (h : a.grownBy b row) (k : b.grownBy c r) (hr : ∀ j, r = some j → a.heap.size ≤ j) : a.grownBy c row :=
  ⟨k.os.trans h.os, k.tape.trans h.tape, k.output.trans h.output, Nat.le_trans h.size k.size, fun i hi hne => (k.block i (Nat.lt_of_lt_of_le hi h.size) fun e => by have := hr i e.symm; omega).trans (h.block i hi hne)⟩
set_option maxRecDepth 100000 in
set_option maxHeartbeats 1600000 in
theorem rdPrefixes (B g : Nat) (w : World) (h : Rd B w g) :
    Calls Try.prog 49 #[.pointer (some ⟨g, 0, none⟩)] w fun e w' => ∃ (v : Value) (ts : List Pre2), e = .returned v ∧ SmD ts ∧ OwnP w.heap.size w' v ts ∧ Rd B w' g ∧ w.grownBy w' (some g) := by
  obtain ⟨i0, hi, hz0, hz1, hz2⟩ := info_parts infoPre
  have hgw := h.2.1
  have hB := h.1
  have R0 := (h.alloc (.cells #[] 30)).alloc (.cells allPre 30)
  have G0 := (World.grownBy_alloc w (.cells #[] 30) (some g)).trans (World.grownBy_alloc (w.alloc (.cells #[] 30)) (.cells allPre 30) (some g))
  have O0 := (World.ownsRow_lit (size := 2) (e := 30) w #[] 0 (Nat.le_refl _) (by decide) rfl).alloc (.cells allPre 30)
  have A0 := heap_alloc_new (w.alloc (.cells #[] 30)) (.cells allPre 30)
  have hsz : (w.alloc (.cells #[] 30)).heap.size = w.heap.size + 1 := by simp
  rw [hsz] at A0
  go_enter Try.func49, Try.ntmps49
  go_wp2_with fail
  go_loopw [3, 5] (fun l i wr => ∃ k : Nat, k ≤ 4 ∧ i = .int .i64 k ∧ (∃ ts : List Pre2, Hid (OwnP w.heap.size wr l ts) ∧ Hid (∀ t ∈ ts, t.1.size ≤ 4 ∧ t.2.size ≤ 4) ∧ ts.length ≤ k) ∧ Hid (l.ownBlock ≠ some (w.heap.size + 1)) ∧ Rd B wr g ∧ w.grownBy wr (some g) ∧ Hid (wr.heap[w.heap.size + 1]? = some (.cells allPre 30 (0, 0)))) (fun _ i _ => 4 - (intOf i).toNat)
  case atStart => exact ⟨0, Nat.zero_le _, rfl, ⟨[], Lib.hid O0, Lib.hid (by simp), Nat.le_refl _⟩, Lib.hid (by simp [Value.ownBlock]), R0, G0, Lib.hid A0⟩
  case round =>
    obtain ⟨k, hk, rfl, ⟨ts, hown, hsm, hlen⟩, hne, hr, hg, hA⟩ := hrel
    by_cases hlt : k < 4
    · go_wp2_with fail
      refine (rdOnce B g _ hr 2 (by omega) (by omega)).mono ?_
      rintro e w1 ⟨b, rfl, hr1, hg1⟩
      have hlt0 := fun j hj => (hown.out.lt j hj).1
      have hown1 := hown.out.kept hg1 (by
        rcases hob : Value.ownBlock _ with _ | j
        · exact .inl rfl
        · refine .inr ?_
          have := hlt0 j hob
          intro e
          simp at e
          omega)
      have hA1 := (hg1.block _ (by have := hg.size; have := bld_old' hA.out; omega) (by simp; omega)).trans hA.out
      have G1 := hg.trans hg1
      have z1 := G1.size
      have zA := bld_old' hA1
      clear hg1 hr hg hA
      cases b
      · go_wp2_with fail
        go_roundw
        case rel => exact ⟨k + 1, by omega, by go_num, ⟨ts, Lib.hid hown1, hsm, by omega⟩, hne, hr1, G1, Lib.hid hA1⟩
        case measure => simp [intOf]; omega
      · obtain ⟨p, hp1, hp2, c0, c1⟩ := allPre_at hA1 k hlt
        have hk6 : (0 : Int) ≤ (k : Int) := by omega
        have hk7 : (k : Int) < 4 := by omega
        go_wp2_with (at_builtin; refine wpList_append_own_at _ rfl _ _ 24 rfl w.heap.size 30 i0 (.agg #[.string ⟨#[]⟩, .string ⟨#[]⟩]) 2 32 Try.underlying24 hi hz0 hz1 hz2 rfl (by decide) _ _ _ rfl (hown1.alloc _) ⟨w1.heap.size, 0, none⟩ 1 1 [.string p.1, .string p.2] rfl rfl ?d1 ?d2 ?d3 ?d4 ?d5 ?_)
        case d1 => exact two_cell
        case d2 => intro u hu; simp at hu; rcases hu with rfl | rfl <;> rfl
        case d3 => unfold maxLen; omega
        case d4 => omega
        case d5 => simp; omega
        intro v' w2 hown2 hg2 _ hat
        have O2 := ownP_snoc hown2
        have HB : Hid (v'.ownBlock ≠ some (w.heap.size + 1)) := Lib.hid (by
          rcases hat with e | e
          · rw [e]; exact hne.out
          · rw [e]; simp; omega)
        have hA2 := (hg2.block (w.heap.size + 1) (by simp; omega) (fun e => hne.out e.symm)).trans ((Below.heap_alloc w1 _ _ zA).trans hA1)
        have R2 := (hr1.alloc _).grown hg2 (fun j hj => by have := hlt0 j hj; omega)
        have G2 := grown_far (G1.trans (World.grownBy_alloc w1 _ _)) hg2 hlt0
        have HSM : Hid (∀ t ∈ ts ++ [p], t.1.size ≤ 4 ∧ t.2.size ≤ 4) := Lib.hid (by
          intro t ht
          rcases List.mem_append.1 ht with ht | ht
          · exact hsm.out t ht
          · obtain rfl : t = p := by simpa using ht
            exact ⟨hp1, hp2⟩)
        clear hown1 hown2 hA1 hr1 G1 c0 c1 hg2 hne hown
        go_wp2_with fail
        go_roundw
        case rel => exact ⟨k + 1, by omega, by go_num, ⟨ts ++ [p], Lib.hid O2, HSM, by rw [List.length_append, List.length_singleton]; omega⟩, HB, R2, G2, Lib.hid hA2⟩
        case measure => simp [intOf]; omega
    · go_wp2_with fail
      refine (rdOnce B g _ hr 30 (by omega) (by omega)).mono ?_
      rintro e w1 ⟨b, rfl, hr1, hg1⟩
      have hlt0 := fun j hj => (hown.out.lt j hj).1
      have hown1 := hown.out.kept hg1 (by
        rcases hob : Value.ownBlock _ with _ | j
        · exact .inl rfl
        · refine .inr ?_
          have := hlt0 j hob
          intro e
          simp at e
          omega)
      have G1 := hg.trans hg1
      have z1 := G1.size
      clear hg1 hr hg hA
      cases b
      · go_wp2_with fail
        go_ret
        exact ⟨_, ts, rfl, ⟨by omega, hsm.out⟩, hown1, hr1, G1⟩
      · go_wp2_with (at_builtin; refine wpList_append_own_at _ rfl _ _ 24 rfl w.heap.size 30 i0 (.agg #[.string ⟨#[]⟩, .string ⟨#[]⟩]) 2 32 Try.underlying24 hi hz0 hz1 hz2 rfl (by decide) _ _ _ rfl (hown1.alloc _) ⟨w1.heap.size, 0, none⟩ 1 1 [.string ⟨#[65]⟩, .string ⟨#[]⟩] rfl rfl ?d1 ?d2 ?d3 ?d4 ?d5 ?_)
        case d1 => exact two_cell
        case d2 => intro u hu; simp at hu; rcases hu with rfl | rfl <;> rfl
        case d3 => unfold maxLen; omega
        case d4 => omega
        case d5 => simp; omega
        intro v' w2 hown2 hg2 _ hat
        have O2 := ownP_snoc (p := ((⟨#[65]⟩, ⟨#[]⟩) : Pre2)) hown2
        have R2 := (hr1.alloc _).grown hg2 (fun j hj => by have := hlt0 j hj; omega)
        have G2 := grown_far (G1.trans (World.grownBy_alloc w1 _ _)) hg2 hlt0
        clear hown1 hown2 hr1 G1 hg2
        go_wp2_with fail
        go_ret
        refine ⟨_, ts ++ [((⟨#[65]⟩, ⟨#[]⟩) : Pre2)], rfl, ⟨by rw [List.length_append, List.length_singleton]; omega, ?_⟩, O2, R2, G2⟩
        intro t ht
        rcases List.mem_append.1 ht with ht | ht
        · exact hsm.out t ht
        · obtain rfl : t = ((⟨#[65]⟩, ⟨#[]⟩) : Pre2) := by simpa using ht
          exact ⟨by decide, by decide⟩
set_option maxRecDepth 100000 in
set_option maxHeartbeats 1600000 in
theorem drawShortened (w : World) (a : Option Addr) (len cap : Nat) (zs : List Int) (hrow : Frame.IsRow .u8 w a len cap zs) :
    Calls Try.prog 13 #[.slice a len cap] w fun e w' => ∃ (v : Value) (ts : List Pre2) (s : ByteArray), e = .returned (.tuple #[v, .string s]) ∧ SmD ts ∧ s.size ≤ 20 ∧ OwnP w.heap.size w' v ts ∧ w.grownBy w' none := by
  go_enter Try.func13, Try.ntmps13
  go_wp2_with fail
  refine (rdOpen _ _ _ _ _ hrow).mono ?_
  rintro e w1 ⟨rfl, hr1, hg1⟩
  have l1 := hr1.2.1
  go_wp2_with fail
  refine (rdPrefixes _ _ _ hr1).mono ?_
  rintro e w2 ⟨v, ts, rfl, hS, hO, hr2, hg2⟩
  have G2 := grown_new hg1 hg2
  have hlt := fun j hj => (hO.lt j hj).1
  have hO' : OwnP w.heap.size w2 v ts := by
    refine ⟨hO.1, hO.2.imp id ?_⟩
    rintro ⟨g, c, cur, h1, h2, h3⟩
    exact ⟨g, c, cur, h1, by omega, h3⟩
  have hne : v.ownBlock = none ∨ v.ownBlock ≠ some w.heap.size := by
    rcases hob : Value.ownBlock v with _ | j
    · exact .inl rfl
    · refine .inr ?_
      have := hlt j hob
      intro e
      simp at e
      omega
  clear hO hg1 hg2 hr1
  go_wp2_with fail
  refine (rdOnce _ _ _ hr2 2 (by omega) (by omega)).mono ?_
  rintro e w3 ⟨b, rfl, hr3, hg3⟩
  have G3 := grown_new G2 hg3
  have O3 := hO'.kept hg3 hne
  clear hO' hg3 hr2 G2
  cases b
  · go_wp2_with fail
    refine (rdThing _ _ _ hr3).mono ?_
    rintro e w4 ⟨s, hs1, _, rfl, hr4, hg4⟩
    have G4 := grown_new G3 hg4
    have O4 := O3.kept hg4 hne
    clear O3 hg4 hr3 G3
    go_wp2_with fail
    go_ret2
    exact ⟨v, ts, s, rfl, hS, hs1, O4, G4⟩
  · go_wp2_with fail
    refine (rdPred _ _ _ hr3).mono ?_
    rintro e w4 ⟨s, _, hs1, rfl, hr4, hg4⟩
    have G4 := grown_new G3 hg4
    have O4 := O3.kept hg4 hne
    clear O3 hg4 hr3 G3
    go_wp2_with fail
    go_ret2
    exact ⟨v, ts, s, rfl, hS, by omega, O4, G4⟩
end Go.Proofs.Ytdhieemalhadmab
