/- The walk of FnExactConsistent. -/
import Derived.Test.YtmklnkogmidkdaaG00
import Derived.Test.YtmklnkogmidkdaaG21
import Derived.Test.YtmklnkogmidkdaaG03
namespace Go.Proofs.Ytmklnkogmidkdaa
open Go.RowKit Go.WideShapes
namespace fnExactConsistent
def conT (g : List Tri3) : Bool := graphOk g && decide ((clashesT g).length = 0)
theorem ownS_isN {B : Nat} {w : World} {v : Value} {ts : List ByteArray} {n : Nat} (h : OwnS B w v ts) (l : ts.length = n) : ∃ a c, v = .slice a n c ∧ IsStrs w a n c ts := by
  subst l; exact h.is
set_option maxRecDepth 100000 in
set_option maxHeartbeats 1600000 in
theorem implCon (a : Option Addr) (la ca : Nat) (ts : List Tri3) (w : World) (h : IsTris w a la ca ts) (hS : Sm ts) :
    Calls Try.prog 40 #[.slice a la ca] w fun e w' => e = .returned (.bool (conT ts)) ∧ Below w.heap.size w w' := by
  have C := implClashesOf a la ca ts w h hS
  unfold conT
  obtain ⟨N, hN⟩ : ∃ N, (clashesT ts).length = N := ⟨_, rfl⟩
  have hM : ((clashesT ts).map bs).length = N := by rw [List.length_map]; exact hN
  rw [hN]
  generalize (clashesT ts).map bs = R at C hM
  generalize graphOk ts = bb at C
  have HC := Lib.hid C
  have HM := Lib.hid hM
  clear C hM hN
  by_cases h0 : N = 0
  · subst h0
    cases bb
    all_goals
      go_enter Try.func40, Try.ntmps40
      go_wp2_with fail
      refine HC.out.mono ?_
      rintro e w1 ⟨v, rfl, o, hb⟩
      obtain ⟨x, c, rfl, i⟩ := ownS_isN o HM.out
      go_wp2_with fail
      go_ret
      exact ⟨rfl, hb⟩
  · have h1 : ¬ (N : Int) = 0 := by omega
    have h2 : decide (N = 0) = false := decide_eq_false h0
    have h3 : ((N : Int) == 0) = false := by rw [beq_eq_false_iff_ne]; exact h1
    rw [h2]
    cases bb
    all_goals
      go_enter Try.func40, Try.ntmps40
      go_wp2_with fail
      refine HC.out.mono ?_
      rintro e w1 ⟨v, rfl, o, hb⟩
      obtain ⟨x, c, rfl, i⟩ := ownS_isN o HM.out
      go_wp2_with fail
      go_ret
      exact ⟨rfl, hb⟩
set_option maxRecDepth 100000 in
set_option maxHeartbeats 1600000 in
theorem specCon (a : Option Addr) (la ca : Nat) (ts : List Tri3) (w : World) (h : IsTris w a la ca ts) (hS : Sm ts) :
    Calls Try.prog 39 #[.slice a la ca] w fun e w' => e = .returned (.bool (conT ts)) ∧ Below w.heap.size w w' := by
  have C := specClashesOf a la ca ts w h hS
  unfold conT
  obtain ⟨N, hN⟩ : ∃ N, (clashesT ts).length = N := ⟨_, rfl⟩
  have hM : ((clashesT ts).map bs).length = N := by rw [List.length_map]; exact hN
  rw [hN]
  generalize (clashesT ts).map bs = R at C hM
  generalize graphOk ts = bb at C
  have HC := Lib.hid C
  have HM := Lib.hid hM
  clear C hM hN
  by_cases h0 : N = 0
  · subst h0
    cases bb
    all_goals
      go_enter Try.func39, Try.ntmps39
      go_wp2_with fail
      refine HC.out.mono ?_
      rintro e w1 ⟨v, rfl, o, hb⟩
      obtain ⟨x, c, rfl, i⟩ := ownS_isN o HM.out
      go_wp2_with fail
      go_ret
      exact ⟨rfl, hb⟩
  · have h1 : ¬ (N : Int) = 0 := by omega
    have h2 : decide (N = 0) = false := decide_eq_false h0
    have h3 : ((N : Int) == 0) = false := by rw [beq_eq_false_iff_ne]; exact h1
    rw [h2]
    cases bb
    all_goals
      go_enter Try.func39, Try.ntmps39
      go_wp2_with fail
      refine HC.out.mono ?_
      rintro e w1 ⟨v, rfl, o, hb⟩
      obtain ⟨x, c, rfl, i⟩ := ownS_isN o HM.out
      go_wp2_with fail
      go_ret
      exact ⟨rfl, hb⟩
set_option maxRecDepth 100000 in
set_option maxHeartbeats 1600000 in
theorem walk (a : Option Addr) (len cap : Nat) (ts : List Tri3) (w : World) (h : IsTris w a len cap ts) :
    Calls Try.prog 12 #[.slice a len cap] w fun e w' => e = .returned (.bool true) ∧ Below w.heap.size w w' := by
  have hlen : len ≤ 9223372036854775807 := by
    rcases h with ⟨_, rfl, _, _⟩ | ⟨_, _, h1, h2, _⟩
    · omega
    · unfold maxLen at h2; omega
  have hm := h.small
  have hl := h.len
  go_enter Try.func12, Try.ntmps12
  go_wp2_with fail
  refine (szTriS a len cap ts _ h 1048576 (by omega) (by omega) hlen).mono ?_
  rintro e w1 ⟨n, rfl, hn, hb1⟩
  have h1 := h.next hb1
  rcases hn with rfl | ⟨hn0, hn1, hsm⟩
  · go_wp2_with fail
    go_ret
    exact ⟨rfl, hb1⟩
  have hS : Sm ts := fun t ht => by have := hsm.2 t ht; omega
  have hl1 : len ≤ 1048576 := hsm.1
  have hn2 : ¬ n < 0 := by omega
  clear hsm h
  go_wp2_with fail
  refine (toTriS a len cap ts _ h1 hl1).mono ?_
  rintro e w2 ⟨v, rfl, ho, hb2⟩
  obtain ⟨x2, y2, rfl, i2⟩ := ho.is hm
  rw [hl] at i2
  have h2 := h1.next hb2
  have B2 := hb1.trans (hb2.mono hb1.size)
  clear ho hb2 h1 hb1
  go_wp2_with fail
  refine (specCon x2 len y2 ts _ i2 hS).mono ?_
  rintro e w3 ⟨rfl, hb3⟩
  have h3 := h2.next hb3
  have B3 := B2.trans (hb3.mono B2.size)
  clear hb3 h2 B2 i2
  go_wp2_with fail
  refine (toTriS a len cap ts _ h3 hl1).mono ?_
  rintro e w4 ⟨v, rfl, ho, hb4⟩
  obtain ⟨x4, y4, rfl, i4⟩ := ho.is hm
  rw [hl] at i4
  have h4 := h3.next hb4
  have B4 := B3.trans (hb4.mono B3.size)
  clear ho hb4 h3 B3
  go_wp2_with fail
  refine (implCon x4 len y4 ts _ i4 hS).mono ?_
  rintro e w5 ⟨rfl, hb5⟩
  have h5 := h4.next hb5
  have i5 := i4.next hb5
  have B5 := B4.trans (hb5.mono B4.size)
  clear hb5 h4 i4 B4
  generalize conT ts = q
  cases q
  all_goals
    go_wp2_with fail
    refine (toTriS a len cap ts _ h5 hl1).mono ?_
    rintro e w6 ⟨v, rfl, ho, hb6⟩
    obtain ⟨x6, y6, rfl, i6⟩ := ho.is hm
    rw [hl] at i6
    have i7 := i5.next hb6
    have B6 := B5.trans (hb6.mono B5.size)
    clear ho hb6 h5 B5 i5
    go_wp2_with fail
    refine (eqTriS x4 x6 len y4 len y6 ts _ i7 i6 hl1).mono ?_
    rintro e w7 ⟨rfl, hb7⟩
    have B7 := B6.trans (hb7.mono B6.size)
    clear hb7 B6 i6 i7
    go_wp2_with fail
    go_ret
    exact ⟨rfl, B7⟩
end fnExactConsistent
end Go.Proofs.Ytmklnkogmidkdaa
