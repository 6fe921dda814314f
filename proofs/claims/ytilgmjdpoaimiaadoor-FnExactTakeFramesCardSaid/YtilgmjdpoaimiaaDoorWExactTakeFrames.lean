/- The walk of FnExactTakeFrames. -/
import Derived.Test.YtilgmjdpoaimiaaDoorFrame
import Derived.Test.YtilgmjdpoaimiaaDoorFrmT
import Derived.Test.YtilgmjdpoaimiaaDoorFrmK
namespace Go.Proofs.YtilgmjdpoaimiaaDoor
open Go.RowKit Go.WideShapes
namespace fnExactTakeFrames
theorem ownS_isN {B : Nat} {w : World} {v : Value} {ts : List ByteArray} {n : Nat} (h : OwnS B w v ts) (l : ts.length = n) : ∃ a c, v = .slice a n c ∧ IsStrs w a n c ts := by
  subst l; exact h.is
set_option maxRecDepth 100000 in
set_option maxHeartbeats 3200000 in
theorem walk (s : ByteArray) (w : World) (hs : s.size ≤ maxLen) (ht : CrcT w) :
    Calls Tryd.prog 5 #[.string s] w fun e w' => e = .returned (.bool true) ∧ Below w.heap.size w w' := by
  unfold maxLen at hs
  by_cases hb : (1048576 : Int) < s.size
  · go_enter Tryd.func5, Tryd.ntmps5
    go_wp2_with fail
    go_ret
    exact ⟨rfl, Below.refl _ _⟩
  have h0 := ht.1
  have C1 := fun w => specTake s w (by omega)
  have C2 := fun w ht => implTake s w (by omega) ht
  have hR : ((takeL s.data.toList).map bs).length ≤ 300000 := by
    rw [List.length_map]
    obtain ⟨h1, r, h2, _⟩ := takeL_is s.data.toList.length s.data.toList (Nat.le_refl _)
    have h3 := framesL_len _ h1
    have h4 := congrArg List.length h2
    rw [List.length_append, size_len] at h4
    omega
  generalize (takeL s.data.toList).map bs = R at C1 C2 hR
  generalize (framesL (takeL s.data.toList)).length = P at C1 C2
  obtain ⟨N, hN⟩ : ∃ N, R.length = N := ⟨_, rfl⟩
  rw [hN] at hR
  have HN := Lib.hid hN
  have HC1 := Lib.hid C1
  have HC2 := Lib.hid C2
  have HT := Lib.hid ht
  clear C1 C2 hN ht
  go_enter Tryd.func5, Tryd.ntmps5
  go_wp2_with fail
  refine (HC1.out _).mono ?_
  rintro e w1 ⟨v, rfl, o1, B1⟩
  obtain ⟨sa, sc, rfl, i1⟩ := ownS_isN o1 HN.out
  clear o1
  go_wp2_with fail
  refine (HC2.out _ (HT.out.next B1 h0 (Nat.le_refl _))).mono ?_
  rintro e w2 ⟨v, rfl, o2, E2⟩
  have hlt2 := fun j hj => (World.ownsRow.lt o2 j hj)
  obtain ⟨ga, gc, rfl, i2⟩ := ownS_isN o2 HN.out
  have O2 := Lib.hid o2
  clear o2
  go_wp2_with fail
  refine (eqStrS ga sa N gc N sc R _ i2 (i1.next E2) (by omega)).mono ?_
  rintro e w3 ⟨rfl, hb⟩
  have E3 := E2.trans (hb.mono E2.size)
  have MK := markStrS w1.heap.size _ R w3 (O2.out.kept hb) (by rw [HN.out]; omega) 1 (by omega) (by omega)
  rw [HN.out] at MK
  obtain ⟨K, hK⟩ : ∃ K : Nat, 1 + N = K := ⟨_, rfl⟩
  rw [hK] at MK
  have hK0 : ¬ (K : Int) < 0 := by omega
  have HLD : Hid (∀ W, IsStrs W ga N gc (marksS 1 N) → Calls Tryd.prog 16 #[.slice ga N gc, .int .i64 1] W fun e w' => e = .returned (.int .i64 K) ∧ Below W.heap.size W w') := Lib.hid (fun W hi => by
    have := heldStrS ga N gc W 1 hi (by omega) (by omega) (by omega)
    rw [hK] at this; exact this)
  have HMK := Lib.hid MK
  clear hb E2 O2 i2 MK hK
  go_wp2_with fail
  refine HMK.out.mono ?_
  rintro e w4 ⟨rfl, o4, hg⟩
  have E4 := E3.grown hg E3.size (fun j hj => (hlt2 j hj).1)
  obtain ⟨ua, uc, e4, i4⟩ := ownS_isN o4 (marksS_len _ _)
  simp only [Value.slice.injEq, true_and] at e4
  obtain ⟨rfl, rfl⟩ := e4
  clear hg HMK E3 o4
  go_wp2_with fail
  refine (HLD.out _ i4).mono ?_
  rintro e w5 ⟨rfl, hb⟩
  have E5 := E4.trans (hb.mono E4.size)
  have i5 := i4.next hb
  clear hb i4 E4
  go_wp2_with fail
  refine (HC2.out _ (HT.out.next (B1.trans (E5.mono B1.size)) h0 (Nat.le_refl _))).mono ?_
  rintro e w6 ⟨v, rfl, o6, hb⟩
  obtain ⟨ha, hc, rfl, i6⟩ := ownS_isN o6 HN.out
  have E6 := E5.trans (hb.mono E5.size)
  have j6 := i5.next hb
  clear hb E5 i5 o6
  go_wp2_with fail
  refine (eqStrS ha sa N hc N sc R _ i6 (i1.next E6) (by omega)).mono ?_
  rintro e w7 ⟨rfl, hb⟩
  have E7 := E6.trans (hb.mono E6.size)
  have j7 := j6.next hb
  clear hb E6 j6 i6
  go_wp2_with fail
  refine (HLD.out _ j7).mono ?_
  rintro e w8 ⟨rfl, hb⟩
  have B8 := B1.trans ((E7.trans (hb.mono E7.size)).mono B1.size)
  clear hb j7
  go_wp2_with fail
  go_ret
  exact ⟨rfl, B8⟩
end fnExactTakeFrames
end Go.Proofs.YtilgmjdpoaimiaaDoor
