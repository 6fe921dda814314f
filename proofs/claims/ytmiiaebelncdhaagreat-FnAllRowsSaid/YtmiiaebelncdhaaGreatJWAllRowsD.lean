/- The walk of FnAllRows. -/
import Derived.Test.YtmiiaebelncdhaaGreatG00
import Derived.IntWalk
import Derived.Test.YtmiiaebelncdhaaGreatG34
import Derived.Test.YtmiiaebelncdhaaGreatG38
import Derived.Test.YtmiiaebelncdhaaGreatG37
import Derived.Test.YtmiiaebelncdhaaGreatG35
import Derived.Test.YtmiiaebelncdhaaGreatG15
import Derived.Test.YtmiiaebelncdhaaGreatJWExactMerged
namespace Go.Proofs.YtmiiaebelncdhaaGreat
open Go.RowKit Go.WideShapes
namespace fnAllRows
theorem smP_max {rs : List RowV} (h : ∀ r ∈ rs, SmP r) : ∀ r ∈ rs, ∀ t ∈ r, t.1.size ≤ maxLen ∧ t.2.size ≤ maxLen := fun r hr t ht => by
  have := h r hr t ht
  unfold maxLen
  omega
theorem rows_le {gs ls : List Tri3} (hl : ls.length ≤ 3) : ∀ r ∈ solR gs ls, r.length ≤ 12 := by
  cases h : solOk gs ls
  · intro r hr
    rw [solR_none h] at hr
    simp at hr
  · intro r hr
    exact rowOk_most ((solR_row h r hr).ok (by omega))
theorem got_is {w : World} {a : Option Addr} {n c : Nat} {ts : List Tri3} (h : GotG w (.slice a n c) ts) : ts.length = n ∧ IsTris w a n c ts ∧ SmG ts := by
  obtain ⟨x, c', hv, hi, hp, hs⟩ := h
  simp only [Value.slice.injEq] at hv
  obtain ⟨rfl, rfl, rfl⟩ := hv
  exact ⟨rfl, hi, hs⟩
def anyR (r : RowV) (ms : List RowV) : Bool := ms.any (fun s => decide (s = r))
theorem anyR_snoc (r s : RowV) (ms : List RowV) : anyR r (ms ++ [s]) = (anyR r ms || decide (s = r)) := by simp [anyR]
theorem anyR_in {r : RowV} {ms : List RowV} (h : r ∈ ms) : anyR r ms = true := by
  unfold anyR
  rw [List.any_eq_true]
  exact ⟨r, h, decide_eq_true rfl⟩
theorem anyR_step {r s : RowV} {ms : List RowV} {k : Nat} (h : ms[k]? = some s) : anyR r (ms.take (k + 1)) = (anyR r (ms.take k) || decide (s = r)) := by
  obtain ⟨hk, rfl⟩ := List.getElem?_eq_some_iff.1 h
  rw [List.take_succ_eq_append_getElem hk, anyR_snoc]
theorem tris_part {w : World} {b off len cap : Nat} {ts : List Tri3} (h : IsTris w (some ⟨b, off, none⟩) len cap ts) {i n : Nat} (hi : i + n ≤ len) : IsTris w (some ⟨b, off + i * 3, none⟩) n (cap - i) ((ts.drop i).take n) := by
  rw [Nat.mul_comm i 3]
  rcases h with ⟨h0, _⟩ | ⟨x, hx, h1, h2, h3, h4⟩
  · cases h0
  · cases hx
    refine .inr ⟨_, rfl, by omega, by unfold maxLen at *; omega, by rw [List.length_take, List.length_drop]; omega, fun k t hk => ?_⟩
    have hkn : k < n := by
      have := (List.getElem?_eq_some_iff.1 hk).1
      rw [List.length_take] at this
      omega
    rw [List.getElem?_take_of_lt hkn, List.getElem?_drop] at hk
    have := h4 (i + k) t hk
    unfold TriAt at this ⊢
    simp only [add_plain] at this ⊢
    rw [show off + 3 * (i + k) = off + 3 * i + 3 * k by omega, show off + (3 * (i + k) + 1) = off + 3 * i + (3 * k + 1) by omega, show off + (3 * (i + k) + 2) = off + 3 * i + (3 * k + 2) by omega] at this
    exact this
theorem tris_take {w : World} {a : Option Addr} {len cap : Nat} {ts : List Tri3} (h : IsTris w a len cap ts) {n : Nat} (hn : n ≤ len) : IsTris w a n cap (ts.take n) := by
  rcases h with ⟨rfl, rfl, rfl, rfl⟩ | ⟨x, rfl, h1, h2, h3, h4⟩
  · obtain rfl : n = 0 := by omega
    exact .inl ⟨rfl, rfl, rfl, by simp⟩
  · refine .inr ⟨x, rfl, by omega, h2, by rw [List.length_take]; omega, fun k t hk => h4 k t ?_⟩
    have hkn : k < n := by
      have := (List.getElem?_eq_some_iff.1 hk).1
      rw [List.length_take] at this
      omega
    rwa [List.getElem?_take_of_lt hkn] at hk
theorem sm_sub {ts us : List Tri3} (h : SmT ts) (hs : ∀ t ∈ us, t ∈ ts) : SmT us := fun t ht => h t (hs t ht)
set_option maxRecDepth 100000 in
set_option maxHeartbeats 12800000 in
theorem walk (a : Option Addr) (len cap : Nat) (zs : List Int) (w : World) (hrow : Frame.IsRow .u8 w a len cap zs) :
    Calls Tryz.prog 4 #[.slice a len cap] w fun e w' => e = .returned (.bool true) ∧ Below w.heap.size w w' := by
  have hlen : len ≤ 9223372036854775807 := by
    rcases hrow with ⟨_, rfl, _⟩ | ⟨y, _, h1, h2, _⟩
    · omega
    · unfold maxLen at h2; omega
  by_cases hbig : (1048576 : Int) < len
  · go_enter Tryz.func4, Tryz.ntmps4
    go_wp2_with go_in
    go_ret
    exact ⟨rfl, Below.refl _ _⟩
  have HROW := Lib.hid hrow
  clear hrow
  go_enter Tryz.func4, Tryz.ntmps4
  go_wp2_with (go_at_call 9; go_in)
  refine (drawSolutions _ _ _ _ _ HROW.out).mono ?_
  rintro e w1 ⟨v, u, gs, ls, rfl, hG, hL, hl3, g1⟩
  obtain ⟨xg, cg, rfl⟩ := hG.shape
  obtain ⟨xl, cl, rfl⟩ := hL.shape
  have B1 := Lib.hid (below_of_grown g1)
  have HSG : Hid (SmG gs) := Lib.hid (by obtain ⟨_, _, _, _, _, h⟩ := hG; exact h)
  have HSL : Hid (SmG ls) := Lib.hid (by obtain ⟨_, _, _, _, _, h⟩ := hL; exact h)
  obtain ⟨ng, hn1⟩ : ∃ n, gs.length = n := ⟨_, rfl⟩
  obtain ⟨nl, hn2⟩ : ∃ n, ls.length = n := ⟨_, rfl⟩
  rw [hn1] at hG ⊢
  rw [hn2] at hL ⊢
  have hng : ng ≤ 81 := by rw [← hn1]; exact HSG.out.1
  have hnl : nl ≤ 3 := by omega
  have hnl1 : 1 ≤ nl := by omega
  obtain ⟨_, hgi, _⟩ := got_is hG
  obtain ⟨_, hli, _⟩ := got_is hL
  have HG1 := Lib.hid hgi
  have HNG := Lib.hid hn1
  clear hG hL g1 hbig hlen hgi
  by_cases h2 : nl < 2
  · have HL1 := Lib.hid hli
    have CA := Lib.hid (fun W (h : Below w1.heap.size w1 W) => implSolutions xg xl ng cg nl cl gs ls W (HG1.out.next h) (HL1.out.next h) HSG.out.t HSL.out.t)
    have CB := Lib.hid (fun W (h : Below w1.heap.size w1 W) => specSolutions xg xl ng cg nl cl gs ls W (HG1.out.next h) (HL1.out.next h) HSG.out.t HSL.out.t)
    have HSR := Lib.hid (solR_small (gs := gs) (ls := ls) HSG.out.t HSL.out.t)
    have h2' : (nl : Int) < 2 := by omega
    have h3' : ¬ (2 : Int) < (nl : Int) := by omega
    clear hli hl3 hn1 hn2
    go_wp2_with fail
    refine (CA.out _ (by first | exact Below.refl _ _ | exact Below.drew (Below.refl _ _))).mono ?_
    rintro e w2 ⟨v2, rfl, o2, b2⟩
    obtain ⟨px, pc, rfl, _⟩ := o2.is (smP_max HSR.out)
    have E2 : Hid (Below w1.heap.size w1 w2) := Lib.hid (by first | exact b2 | exact (Below.drew (Below.refl _ _)).trans b2)
    clear o2 b2 CA
    go_wp2_with fail
    refine (CB.out _ (by first | exact E2.out | exact E2.out.drew)).mono ?_
    rintro e w3 ⟨qx, qn, qc, rfl, _, b3⟩
    have E3 : Hid (Below w1.heap.size w1 w3) := Lib.hid (by first | exact E2.out.trans (b3.mono E2.out.size) | exact E2.out.drew.trans (b3.mono E2.out.size))
    clear b3 CB E2
    generalize solOk gs ls = ok
    cases ok
    all_goals
      go_wp2_with fail
      go_ret
      exact ⟨rfl, B1.out.trans (E3.out.mono B1.out.size)⟩
  obtain ⟨p, q, hpq⟩ : ∃ p q, ls.take 2 = [p, q] := by
    match ls, hn2 with
    | [], h => simp at h; omega
    | [x], h => simp at h; omega
    | x :: y :: r, h => exact ⟨x, y, by simp⟩
  have hli2 := tris_take hli (n := 2) (by omega)
  rw [hpq] at hli2
  have HL1 := Lib.hid hli2
  have HSQ : Hid (SmT [p, q]) := Lib.hid (sm_sub HSL.out.t (fun t ht => List.mem_of_mem_take (by rw [hpq]; exact ht)))
  have CA := Lib.hid (fun W (h : Below w1.heap.size w1 W) => implSolutions xg xl ng cg 2 cl gs [p, q] W (HG1.out.next h) (HL1.out.next h) HSG.out.t HSQ.out)
  have CB := Lib.hid (fun W (h : Below w1.heap.size w1 W) => specSolutions xg xl ng cg 2 cl gs [p, q] W (HG1.out.next h) (HL1.out.next h) HSG.out.t HSQ.out)
  have HSR := Lib.hid (solR_small (gs := gs) (ls := [p, q]) HSG.out.t HSQ.out)
  have hcl : nl ≤ cl := by
    rcases hli with ⟨_, h, _⟩ | ⟨_, _, h, _⟩ <;> omega
  have hcl2 : (cl : Int) ≤ 9223372036854775807 := by
    rcases hli with ⟨_, _, h, _⟩ | ⟨_, _, _, h, _⟩
    · omega
    · unfold maxLen at h; omega
  clear hli hli2 hl3 hn1 hn2 hpq
  by_cases h3 : nl = 3
  case' pos =>
    subst h3
    go_wp2_with fail
  case' neg =>
    obtain rfl : nl = 2 := by omega
    go_wp2_with fail
  all_goals
    refine (CA.out _ (by first | exact Below.refl _ _ | exact Below.drew (Below.refl _ _))).mono ?_
    rintro e w2 ⟨v2, rfl, o2, b2⟩
    obtain ⟨px, pc, rfl, i2⟩ := o2.is (smP_max HSR.out)
    have E2 : Hid (Below w1.heap.size w1 w2) := Lib.hid (by first | exact b2 | exact (Below.drew (Below.refl _ _)).trans b2)
    obtain ⟨pn, hpn⟩ : ∃ n, (solR gs [p, q]).length = n := ⟨_, rfl⟩
    rw [hpn] at i2 ⊢
    have hpn3 : pn ≤ 300 := by rw [← hpn]; exact solR_len
    have HP2 := Lib.hid i2
    have HPN := Lib.hid hpn
    clear o2 b2 CA i2 hpn
    go_wp2_with fail
    refine (CB.out _ (by first | exact E2.out | exact E2.out.drew)).mono ?_
    rintro e w3 ⟨qx, qn, qc, rfl, _, b3⟩
    have b3' : Below w2.heap.size w2 w3 := by first | exact b3 | exact (Below.drew (Below.refl _ _)).trans b3
    have E3 := Lib.hid (E2.out.trans (b3'.mono E2.out.size))
    have HP3 := Lib.hid (HP2.out.next b3')
    have HG3 := Lib.hid (HG1.out.next E3.out)
    have HL3 := Lib.hid (HL1.out.next E3.out)
    have B3 := Lib.hid (B1.out.trans (E3.out.mono B1.out.size))
    clear b3 b3' CB E2 HP2
    cases hok : solOk gs [p, q]
    · clear hok
      go_wp2_with fail
      go_ret
      exact ⟨rfl, B3.out⟩
    have HTWO := Lib.hid (sol_two hok)
    have HROW2 := Lib.hid (solR_row hok)
    have HOKG : Hid (∀ t ∈ gs, okT t = true) := Lib.hid (graphOk_iff.1 (solR_cases hok).1).2.1
    have HOKP : Hid (patT p = true ∧ patT q = true) := Lib.hid (by
      have := (bgpOk_iff.1 (solR_cases hok).2.1).2
      exact ⟨this p (by simp), this q (by simp)⟩)
    have hcg : ng ≤ cg ∧ (cg : Int) ≤ 9223372036854775807 := by
      rcases HG3.out with ⟨_, h1, h2, _⟩ | ⟨_, _, h1, h2, _⟩
      · omega
      · unfold maxLen at h2; omega
    obtain ⟨bl, ol, rfl, hbl, _⟩ := HL3.out.cells (by omega)
    have HSRX := HSR
    clear hok HSR E3 HG1 HL1 B1
    go_wp2_with fail
    go_loopw [9, 10] (fun mv i wr => ∃ j : Nat, j ≤ ng ∧ i = .int .i64 j ∧ Hid (mv = .int .i64 (cntA gs p q j)) ∧ Hid (Below w3.heap.size w3 wr)) (fun _ i _ => ng - (intOf i).toNat)
    case atStart => exact ⟨0, Nat.zero_le _, rfl, Lib.hid rfl, Lib.hid (Below.refl _ _)⟩
    case round =>
      obtain ⟨j, hj, rfl, hmv, hfr⟩ := hrel
      have hj6 : (0 : Int) ≤ (j : Int) := by omega
      by_cases hlt : j < ng
      · have hj7 : (j : Int) < (ng : Int) := by omega
        obtain ⟨bg, og, rfl, hbg, _, _, hl, hc⟩ := HG3.out.cells (by omega)
        have ht : gs[j]? = some (gs[j]'(by omega)) := List.getElem?_eq_getElem (by omega)
        have ig := tris_part HG3.out (i := j) (n := 1) (by omega)
        have hd : (gs.drop j).take 1 = [gs[j]'(by omega)] := by rw [List.drop_eq_getElem_cons (by omega)]; rfl
        rw [hd] at ig
        have htm := List.mem_of_getElem? ht
        have HST := Lib.hid (cntA_step (p := p) (q := q) ht)
        generalize gs[j]'(by omega) = t at ht ig htm HST
        have hs1 := sol_one (HOKG.out t htm) HOKP.out.1
        have hsg1 : SmT [t] := sm_sub HSG.out.t (fun u hu => by obtain rfl := List.mem_singleton.1 hu; exact htm)
        have hsq1 : SmT [p] := sm_sub HSQ.out (fun u hu => by obtain rfl := List.mem_singleton.1 hu; simp)
        have il : IsTris w3 (some ⟨bl, ol, none⟩) 1 cl [p] := tris_take HL3.out (n := 1) (by omega)
        have CI : Hid (∀ W, Below w3.heap.size w3 W → Calls Tryz.prog 11 #[.slice (some ⟨bg, og + j * 3, none⟩) 1 (cg - j), .slice (some ⟨bl, ol, none⟩) 1 cl] W fun e w' => ∃ v, e = .returned (.tuple #[v, .bool true]) ∧ OwnRs W.heap.size w' v (matchM [] p t).toList ∧ Below W.heap.size W w') := Lib.hid (fun W h => by
          have := implSolutions _ _ 1 (cg - j) 1 cl [t] [p] W (ig.next h) (il.next h) hsg1 hsq1
          rw [hs1.1, hs1.2] at this
          exact this)
        have HAS : Hid (∀ a, matchM [] p t = some a → SmP a ∧ rowOk a = true ∧ Asc a) := Lib.hid (fun a ha => by
          have hm : a ∈ solR [t] [p] := by rw [hs1.2, ha]; simp
          have hr := solR_row hs1.1 a hm
          exact ⟨solR_small hsg1 hsq1 a hm, hr.ok (by simp), hr.2.2.1⟩)
        have HTM := Lib.hid htm
        have HCM : Hid (cntA gs p q (j + 1) ≤ 300) := Lib.hid (Nat.le_trans cntA_mono HTWO.out.2.1)
        have hfr' := hfr.out
        have HNX := Lib.hid hfr'
        clear hd hl hc ig il ht hs1 hsg1 hsq1 htm hfr' hfr
        obtain ⟨o, ho⟩ : ∃ o, matchM [] p t = o := ⟨_, rfl⟩
        have HO := Lib.hid ho
        rw [ho] at CI HAS HST
        clear ho
        have hw1 : IntKind.i64.wrap ((j : Int) + 1) = (j : Int) + 1 := IntWalk.i64_in _ (by omega)
        have hw2 : (0 : Int) ≤ (j : Int) + 1 := by omega
        have hw3 : ((j : Int) + 1).toNat = j + 1 := by omega
        have f1 : (j : Int) + 1 ≤ (cg : Int) := by omega
        have f2 : (j : Int) ≤ (j : Int) + 1 := by omega
        have f3 : (1 : Int) ≤ (cl : Int) := by omega
        have f4 : (j : Int) ≤ (cg : Int) := by omega
        have f5 : ¬ cg = j := by omega
        go_wp2_with fail
        go_region_held3 (fun w' => True ∧ True) (exact ⟨trivial, trivial⟩) (first | (go_at_call 11; (with_reducible refine (CI.out _ (Below.drew HNX.out)).mono ?_); rintro e wa ⟨va, rfl, oa, ha⟩))
        clear hw1 hw2 hw3 f1 f2 f4 f5 CI
        have HBA : Hid (Below w3.heap.size w3 wa) := Lib.hid ((Below.drew HNX.out).trans (ha.mono HNX.out.size))
        obtain ⟨ax, ac, rfl, ia⟩ := oa.is (smP_max (fun r hr => by
          cases o with
          | none => simp at hr
          | some b =>
            have e : r = b := by simpa using hr
            rw [e]
            exact (HAS.out b rfl).1))
        have HIA := Lib.hid ia
        clear oa ia ha HNX
        obtain ⟨an, han⟩ : ∃ n, o.toList.length = n := ⟨_, rfl⟩
        rw [han] at HIA ⊢
        have HAN := Lib.hid han
        clear han
        have HMV : Hid (Value.int .i64 (cntA gs p q j) = .int .i64 ((cntA gs p q j + cntB gs q o 0 : Nat) : Int)) := Lib.hid (by rw [cntB_zero, Nat.add_zero])
        have HMJ := Lib.hid (hmv.out.trans HMV.out)
        clear hmv HMV
        go_wp2_with fail
        go_loopw [9, 13] (fun mv k' wr => ∃ k : Nat, k ≤ ng ∧ k' = .int .i64 k ∧ Hid (mv = .int .i64 ((cntA gs p q j + cntB gs q o k : Nat) : Int)) ∧ Hid (Below wa.heap.size wa wr)) (fun _ k' _ => ng - (intOf k').toNat)
        case atStart => exact ⟨0, Nat.zero_le _, rfl, HMJ, Lib.hid (Below.refl _ _)⟩
        case round =>
          clear HMJ
          obtain ⟨k, hk, rfl, hmv, hfr⟩ := hrel
          have hk6 : (0 : Int) ≤ (k : Int) := by omega
          by_cases hlt2 : k < ng
          · have hk7 : (k : Int) < (ng : Int) := by omega
            obtain ⟨b9, o9, e9, _, _, _, hl, hc⟩ := HG3.out.cells (by omega)
            cases e9
            have ht : gs[k]? = some (gs[k]'(by omega)) := List.getElem?_eq_getElem (by omega)
            have ig := tris_part HG3.out (i := k) (n := 1) (by omega)
            have hd : (gs.drop k).take 1 = [gs[k]'(by omega)] := by rw [List.drop_eq_getElem_cons (by omega)]; rfl
            rw [hd] at ig
            have htm := List.mem_of_getElem? ht
            have HSB : Hid (∀ a, cntB gs q (some a) (k + 1) = cntB gs q (some a) k + (matchM a q (gs[k]'(by omega))).toList.length) := Lib.hid (fun a => cntB_step ht)
            have hcm : cntA gs p q j + cntB gs q o (k + 1) ≤ 300 := by
              have h1 := HCM.out
              rw [HST.out] at h1
              have h2 : cntB gs q o (k + 1) ≤ cntB gs q o gs.length := cntB_mono
              omega
            generalize gs[k]'(by omega) = u at ht ig htm HSB
            have hs1 := sol_one (HOKG.out u htm) HOKP.out.2
            have hsg1 : SmT [u] := sm_sub HSG.out.t (fun v hv => by obtain rfl := List.mem_singleton.1 hv; exact htm)
            have hsq1 : SmT [q] := sm_sub HSQ.out (fun v hv => by obtain rfl := List.mem_singleton.1 hv; simp)
            have il : IsTris w3 (some ⟨bl, ol + 1 * 3, none⟩) 1 (cl - 1) [q] := tris_part HL3.out (i := 1) (n := 1) (by omega)
            have hbw := HBA.out.trans (hfr.out.mono HBA.out.size)
            have CI : Hid (∀ W, Below w3.heap.size w3 W → Calls Tryz.prog 11 #[.slice (some ⟨bg, og + k * 3, none⟩) 1 (cg - k), .slice (some ⟨bl, ol + 3, none⟩) 1 (cl - 1)] W fun e w' => ∃ v, e = .returned (.tuple #[v, .bool true]) ∧ OwnRs W.heap.size w' v (matchM [] q u).toList ∧ Below W.heap.size W w') := Lib.hid (fun W h => by
              have := implSolutions _ _ 1 (cg - k) 1 (cl - 1) [u] [q] W (ig.next h) (il.next h) hsg1 hsq1
              rw [hs1.1, hs1.2] at this
              exact this)
            have HBS : Hid (∀ b, matchM [] q u = some b → SmP b ∧ rowOk b = true) := Lib.hid (fun b hb => by
              have hm : b ∈ solR [u] [q] := by rw [hs1.2, hb]; simp
              exact ⟨solR_small hsg1 hsq1 b hm, (solR_row hs1.1 b hm).ok (by simp)⟩)
            have HUM := Lib.hid htm
            have HFR := Lib.hid hfr.out
            have HBW := Lib.hid hbw
            clear hd hl hc ig il ht hs1 hsg1 hsq1 htm hbw hfr
            have hw1 : IntKind.i64.wrap ((k : Int) + 1) = (k : Int) + 1 := IntWalk.i64_in _ (by omega)
            have hw2 : (0 : Int) ≤ (k : Int) + 1 := by omega
            have hw3 : ((k : Int) + 1).toNat = k + 1 := by omega
            have f1 : (k : Int) + 1 ≤ (cg : Int) := by omega
            have f2 : (k : Int) ≤ (k : Int) + 1 := by omega
            have f4 : (k : Int) ≤ (cg : Int) := by omega
            have f5 : ¬ cg = k := by omega
            have hclk : ¬ cl = 1 := by omega
            go_wp2_with fail
            go_region_held3 (fun w' => True ∧ True) (exact ⟨trivial, trivial⟩) (first | (go_at_call 11; (with_reducible refine (CI.out _ (Below.drew HBW.out)).mono ?_); rintro e wb ⟨vb, rfl, ob, hb⟩))
            clear hw1 hw2 hw3 f1 f2 f4 f5 hclk CI HBW
            have hbb : Below wr.heap.size wr wb := (Below.drew (Below.refl wr.heap.size wr)).trans hb
            have HBB : Hid (Below wa.heap.size wa wb) := Lib.hid (HFR.out.trans (hbb.mono HFR.out.size))
            obtain ⟨ob', hob⟩ : ∃ x, matchM [] q u = x := ⟨_, rfl⟩
            have HOB := Lib.hid hob
            rw [hob] at ob HBS
            obtain ⟨bx, bc, rfl, ib⟩ := ob.is (smP_max (fun r hr => by
              cases ob' with
              | none => simp at hr
              | some b =>
                have e : r = b := by simpa using hr
                rw [e]
                exact (HBS.out b rfl).1))
            have HIB := Lib.hid ib
            clear ob ib hb hbb hob HFR

            obtain ⟨bn, hbn⟩ : ∃ n, ob'.toList.length = n := ⟨_, rfl⟩
            rw [hbn] at HIB ⊢
            have HBN := Lib.hid hbn
            clear hbn
            cases o with
            | none =>
              obtain rfl : an = 0 := by have := HAN.out; simpa using this.symm
              have hmv' := hmv.out
              subst hmv'
              clear hmv
              go_wp2_with fail
              go_roundw
              case rel => exact ⟨k + 1, by omega, by go_num, Lib.hid (by rw [cntB_none, cntB_none]), HBB⟩
              case measure => simp [intOf]; omega
            | some ra0 =>
              obtain rfl : an = 1 := by have := HAN.out; simpa using this.symm
              cases ob' with
              | none =>
                obtain rfl : bn = 0 := by have := HBN.out; simpa using this.symm
                have hmv' := hmv.out
                have hn0 : cntB gs q (some ra0) (k + 1) = cntB gs q (some ra0) k := by
                  rw [HSB.out, match_none (HAS.out _ rfl).2.2 HOB.out]
                  simp
                have HN0 : Hid (Value.int .i64 ((cntA gs p q j + cntB gs q (some ra0) k : Nat) : Int) = .int .i64 ((cntA gs p q j + cntB gs q (some ra0) (k + 1) : Nat) : Int)) := Lib.hid (by rw [hn0])
                subst hmv'
                clear hmv hn0
                go_wp2_with fail
                go_roundw
                case rel => exact ⟨k + 1, by omega, by go_num, HN0, HBB⟩
                case measure => simp [intOf]; omega
              | some rb0 =>
                obtain rfl : bn = 1 := by have := HBN.out; simpa using this.symm
                obtain ⟨b1, o1, rfl, hb1, _, _, _, hc1⟩ := HIA.out.cells (by omega)
                obtain ⟨b2, o2, rfl, hb2, _, _, _, hc2⟩ := HIB.out.cells (by omega)
                obtain ⟨ya, yn, yc, d1, hz1⟩ := hc1 0 ra0 rfl
                obtain ⟨za, zn, zc, d2, hz2⟩ := hc2 0 rb0 rfl
                have HD1 := Lib.hid d1
                have HZ1 := Lib.hid hz1
                have HZ2 := Lib.hid hz2
                obtain ⟨om, hom⟩ : ∃ x, matchM ra0 q u = x := ⟨_, rfl⟩
                have HOM := Lib.hid hom
                have HMI : Hid (mergedP ra0 rb0 = om) := Lib.hid (by
                  rw [← hom]
                  refine merged_is (HAS.out _ rfl).2.1 (HBS.out _ rfl).2 (fun h e => ?_) (match_merge (HAS.out _ rfl).2.2 HOB.out)
                  have hin := (HTWO.out.2.2 h).2 (pair_row HTM.out HUM.out HO.out e)
                  exact (HROW2.out h hin).ok (by simp))
                have HIN : Hid (∀ m, om = some m → m ∈ solR gs [p, q]) := Lib.hid (fun m e => (HTWO.out.2.2 m).2 (pair_row HTM.out HUM.out HO.out (hom.trans e)))
                have HS2 : Hid (cntB gs q (some ra0) (k + 1) = cntB gs q (some ra0) k + om.toList.length) := Lib.hid (by rw [HSB.out, hom])
                have CM : Hid (∀ W, Below wb.heap.size wb W → Calls Tryz.prog 24 #[.slice ya yn yc, .slice za zn zc] W fun e w' => ∃ v, e = .returned (.tuple #[v, .bool om.isSome]) ∧ OwnP W.heap.size w' v (om.getD []) ∧ Below W.heap.size W w') := Lib.hid (fun W h => by
                  have := fnExactMerged.implMergedR ya za yn yc zn zc ra0 rb0 W (HZ1.out.next (HBB.out.trans (h.mono HBB.out.size))) (HZ2.out.next h) (HAS.out _ rfl).1 (HBS.out _ rfl).1
                  rw [HMI.out] at this
                  exact this)
                have ALL : Hid (∀ W, Below wb.heap.size wb W → W.cell? ⟨b1, o1, none⟩ = some (.slice ya yn yc) ∧ W.cell? ⟨b2, o2, none⟩ = some (.slice za zn zc)) := Lib.hid (fun W h => by
                  rw [Nat.add_zero] at d1 d2
                  exact ⟨((HBB.out.trans (h.mono HBB.out.size)).cell (p := ⟨b1, o1, none⟩) hb1).trans d1, (h.cell (p := ⟨b2, o2, none⟩) hb2).trans d2⟩)
                have E0 := Lib.hid (Below.drew (Below.refl wb.heap.size wb))
                obtain ⟨y0, y1⟩ := ALL.out _ E0.out
                have hcm' : cntA gs p q j + (cntB gs q (some ra0) k + om.toList.length) ≤ 300 := by rw [← HS2.out]; exact hcm
                obtain ⟨c0, hc0⟩ : ∃ c, cntA gs p q j + cntB gs q (some ra0) k = c := ⟨_, rfl⟩
                have HC0 := Lib.hid hc0
                have hc3 : c0 ≤ 300 := by omega
                have hmv' := hmv.out
                rw [hc0] at hmv'
                subst hmv'
                clear hmv hc1 hc2 d1 d2 hz1 hz2 hom hc0 hcm hcm'
                go_wp2_with fail
                go_region_held3 (fun w' => w'.cell? ⟨b1, o1, none⟩ = some (.slice ya yn yc) ∧ w'.cell? ⟨b2, o2, none⟩ = some (.slice za zn zc))
                  (first | with_reducible exact ALL.out _ E2.out | with_reducible exact ALL.out _ E0.out)
                  (first
                    | (go_at_call 24; (with_reducible refine (CM.out _ E0.out).mono ?_); rintro e wc ⟨vm, rfl, om2, hm⟩; have E2 := Lib.hid (E0.out.trans (hm.mono E0.out.size))))
                have HBC : Hid (Below wa.heap.size wa wc) := Lib.hid (HBB.out.trans (E2.out.mono HBB.out.size))
                have HBW3 : Hid (Below w3.heap.size w3 wc) := Lib.hid (HBA.out.trans (HBC.out.mono HBA.out.size))
                clear y0 y1 E0 CM ALL hm
                cases om with
                | none =>
                  have hn0 : cntA gs p q j + cntB gs q (some ra0) (k + 1) = c0 := by
                    have h1 := HS2.out
                    have h2 := HC0.out
                    simp only [Option.toList_none, List.length_nil] at h1
                    omega
                  have HN0 : Hid (Value.int .i64 (c0 : Int) = .int .i64 ((cntA gs p q j + cntB gs q (some ra0) (k + 1) : Nat) : Int)) := Lib.hid (by rw [hn0])
                  clear om2 E2 hn0
                  go_wp2_with fail
                  go_roundw
                  case rel => exact ⟨k + 1, by omega, by go_num, HN0, HBC⟩
                  case measure => simp [intOf]; omega
                | some m =>
                  have hmin := HIN.out m rfl
                  have hmok := (HROW2.out m hmin).ok (by simp)
                  have hml := rowOk_most hmok
                  have hmsm : SmP m := HSRX.out m hmin
                  obtain ⟨mx, mc, rfl, im⟩ := om2.is (fun t ht => by have := hmsm t ht; unfold maxLen; omega)
                  obtain ⟨mn, hmn⟩ : ∃ n, m.length = n := ⟨_, rfl⟩
                  have im' : IsPres wc mx mn mc m := by
                    simp only [Option.getD_some] at im
                    rw [hmn] at im
                    exact im
                  have HIM := Lib.hid im'
                  have hmn9 : mn ≤ 12 := by omega
                  simp only [Option.getD_some]
                  rw [hmn]
                  have HTR : Hid (anyR m (solR gs [p, q]) = true) := Lib.hid (anyR_in hmin)
                  have hn0 : cntA gs p q j + cntB gs q (some ra0) (k + 1) = c0 + 1 := by
                    have h1 := HS2.out
                    have h2 := HC0.out
                    simp only [Option.toList_some, List.length_cons, List.length_nil] at h1
                    omega
                  have HN0 : Hid (Value.int .i64 ((c0 : Int) + 1) = .int .i64 ((cntA gs p q j + cntB gs q (some ra0) (k + 1) : Nat) : Int)) := Lib.hid (by rw [hn0]; go_num)
                  clear hn0
                  clear im im' hmn om2 hmok hml hmsm hmin E2
                  have hc4 : c0 + 1 ≤ 301 := by omega
                  go_wp2_with fail
                  go_loopw [18, 19] (fun th i wr => ∃ x : Nat, x ≤ pn ∧ i = .int .i64 x ∧ Hid (th = .bool (anyR m ((solR gs [p, q]).take x))) ∧ Hid (Below wc.heap.size wc wr)) (fun _ i _ => pn - (intOf i).toNat)
                  case atStart => exact ⟨0, Nat.zero_le _, rfl, Lib.hid rfl, Lib.hid (Below.refl _ _)⟩
                  case round =>
                    obtain ⟨x, hx, rfl, hth, hfr⟩ := hrel
                    have hx6 : (0 : Int) ≤ (x : Int) := by omega
                    by_cases hlt3 : x < pn
                    · have hx7 : (x : Int) < (pn : Int) := by omega
                      obtain ⟨b5, o5, rfl, hb5, _, _, hl5, hc5⟩ := HP3.out.cells (by omega)
                      have ht : (solR gs [p, q])[x]? = some ((solR gs [p, q])[x]'(by omega)) := List.getElem?_eq_getElem (by omega)
                      obtain ⟨sa, sn, sc, d0, hy⟩ := hc5 x _ ht
                      have hsl := rowOk_most ((HROW2.out _ (List.mem_of_getElem? ht)).ok (by simp))
                      have HST3 := Lib.hid (anyR_step (r := m) ht)
                      generalize (solR gs [p, q])[x]'(by omega) = s' at ht hy hsl HST3
                      have hsn : sn ≤ 12 := by have := hy.len; omega
                      have CD := Lib.hid (fun W (h : Below wc.heap.size wc W) => lawRow sa mx sn sc mn mc s' m W (hy.next (HBW3.out.trans (h.mono HBW3.out.size))) (HIM.out.next h) (by omega) (by omega))
                      have q0 := ((HBW3.out.trans (hfr.out.mono HBW3.out.size)).cell (p := ⟨b5, o5 + x, none⟩) hb5).trans d0
                      clear ht hc5 hl5 hy hsl d0
                      cases hq : anyR m ((solR gs [p, q]).take x)
                      · have hth' := hth.out
                        rw [hq] at hth' HST3
                        rw [Bool.false_or] at HST3
                        subst hth'
                        generalize decide (s' = m) = qb at CD HST3
                        have HFR2 := Lib.hid hfr.out
                        clear hth hq hfr
                        go_wp2_with fail
                        refine (CD.out _ (by first | exact HFR2.out | exact HFR2.out.drew)).mono ?_
                        rintro e we ⟨rfl, he⟩
                        have E5 : Hid (Below wc.heap.size wc we) := Lib.hid (by first | exact HFR2.out.trans (he.mono HFR2.out.size) | exact HFR2.out.drew.trans (he.mono HFR2.out.size))
                        clear he q0 CD HFR2
                        go_wp2_with fail
                        go_roundw
                        case rel => exact ⟨_, _, _, _, _, _, _, _, _, _, _, _, _, _, _, _, _, ⟨x + 1, by omega, by go_num, Lib.hid (by rw [HST3.out]), E5⟩, rfl⟩
                        case measure => simp [intOf]; omega
                      · have hth' := hth.out
                        rw [hq] at hth' HST3
                        rw [Bool.true_or] at HST3
                        subst hth'
                        clear hth hq CD q0
                        go_wp2_with fail
                        go_roundw
                        case rel => exact ⟨x + 1, by omega, by go_num, Lib.hid (by rw [HST3.out]), hfr⟩
                        case measure => simp [intOf]; omega
                    · have hth' := hth.out
                      rw [List.take_of_length_le (by have := HPN.out; omega), HTR.out] at hth'
                      subst hth'
                      have B9 := Lib.hid (HBC.out.trans (hfr.out.mono HBC.out.size))
                      clear hth hx6 hfr
                      go_wp2_with fail
                      go_roundw
                      case rel => exact ⟨k + 1, by omega, by go_num, HN0, B9⟩
                      case measure => simp [intOf]; omega
          · obtain rfl : k = ng := by omega
            have hmv' := hmv.out
            have hcs : cntA gs p q j + cntB gs q o k = cntA gs p q (j + 1) := by rw [HST.out, HNG.out]
            rw [hcs] at hmv'
            subst hmv'
            have B9 := Lib.hid (HBA.out.trans (hfr.out.mono HBA.out.size))
            clear hmv hcs hk6 hfr
            go_wp2_with fail
            go_roundw
            case rel => exact ⟨j + 1, by omega, by go_num, Lib.hid rfl, B9⟩
            case measure => simp [intOf]; omega
      · have hmv' := hmv.out
        have hj9 : cntA gs p q j = pn := by
          have e : j = gs.length := by have := HNG.out; omega
          rw [e, ← HTWO.out.1, HPN.out]
        rw [hj9] at hmv'
        subst hmv'
        have B9 := B3.out.trans (hfr.out.mono B3.out.size)
        clear hmv hj9 hfr
        go_wp2_with fail
        go_ret
        exact ⟨rfl, B9⟩
end fnAllRows
end Go.Proofs.YtmiiaebelncdhaaGreat
