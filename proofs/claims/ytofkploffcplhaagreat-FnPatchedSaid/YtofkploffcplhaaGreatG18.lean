/- A copy without what a set has: slices.DeleteFunc at the set's own question; outOf. -/
import Derived.Test.YtofkploffcplhaaGreatG17
import Derived.Test.YtofkploffcplhaaGreatG13
namespace Go.Proofs.YtofkploffcplhaaGreat
open Go.RowKit Go.WideShapes Go.Maps
theorem flat_take (ts : List Tri3) (k : Nat) : (flat ts).take (k * 3) = flat (ts.take k) := by
  induction ts generalizing k with
  | nil => simp [flat]
  | cons t r ih =>
    cases k with
    | zero => simp [flat]
    | succ k =>
      have := ih k
      simp only [flat, List.flatMap_cons, List.take_succ_cons] at *
      rw [show (k + 1) * 3 = k * 3 + 1 + 1 + 1 from by omega]
      simp only [List.cons_append, List.nil_append, List.take_succ_cons]
      rw [this]
theorem outT_all {ts us : List Tri3} (h : ∀ t ∈ ts, decide (t ∈ us) = false) : outT ts us = ts := by
  unfold outT
  refine List.filter_eq_self.2 fun t ht => ?_
  exact decide_eq_true (of_decide_eq_false (h t ht))
theorem drop_at {xs ys : List Value} {n : Nat} (h : xs.drop n = ys.drop n) {k : Nat} (hk : n ≤ k) : xs[k]? = ys[k]? := by
  have := congrArg (fun l => l[k - n]?) h
  simp only [List.getElem?_drop] at this
  rwa [show n + (k - n) = k from by omega] at this
theorem drop_set3 {xs : List Value} {i j : Nat} (h : i < j) (a b c : Value) : (((xs.set (i * 3) a).set (i * 3 + 1) b).set (i * 3 + 2) c).drop (j * 3) = xs.drop (j * 3) := by
  rw [List.drop_set_of_lt (by omega), List.drop_set_of_lt (by omega), List.drop_set_of_lt (by omega)]
theorem zeroTri (w : World) : (zeroValue 38).run Tryz.prog w = .ok (.agg #[.string ⟨#[]⟩, .string ⟨#[]⟩, .string ⟨#[]⟩]) w := by kernel_rfl
set_option maxRecDepth 100000 in
set_option maxHeartbeats 3200000 in
theorem implDelete (b m g n cap : Nat) (us ts : List Tri3) (B : Nat) (w : World) (hS : OwnSet w b m us) (hbg : b ≠ g) (h : OwnT B w (.slice (some ⟨g, 0, none⟩) n cap) ts) (hn : ts.length = n) (hl : n ≤ 1048576) (hm : ∀ t ∈ ts, SmK t) :
    Calls Tryz.prog 44 #[.slice (some ⟨g, 0, none⟩) n cap, .func (.func 42) #[.map (some b)] #[]] w fun e w' => ∃ i, e = .returned (.slice (some ⟨g, 0, none⟩) i cap) ∧ OwnT B w' (.slice (some ⟨g, 0, none⟩) i cap) (outT ts us) ∧ w.grownBy w' (some g) := by
  have O0 : w.ownsRow B 38 3 (.slice (some ⟨g, 0, none⟩) n cap) n (flat ts) := by unfold OwnT at h; rwa [hn] at h
  have hgw : g < w.heap.size := (World.ownsRow.lt O0 g rfl).2
  have hnc : n ≤ cap := by
    rcases O0.2 with ⟨e, _⟩ | ⟨g', c', cur, e, _, _, h1, _⟩
    · cases e
    · simp only [Value.slice.injEq] at e
      rw [e.2.2]; exact h1
  obtain ⟨a', c', e', hi'⟩ := h.is hm
  rw [hn] at e' hi'
  simp only [Value.slice.injEq, true_and] at e'
  obtain ⟨rfl, rfl⟩ := e'
  have C := Lib.hid (implIndexHas b m us _ n cap ts w hS hi' hl)
  have HS := Lib.hid hS
  have HO := Lib.hid O0
  have HN := Lib.hid hn
  have HM := Lib.hid hm
  clear h hS O0 hi' hm hn
  go_enter Tryz.func44, Tryz.ntmps44
  go_wp2_with fail
  refine C.out.mono ?_
  rintro e w1 ⟨i, rfl, hi, hb1⟩
  have G1 : w.grownBy w1 (some g) := grown_any (grown_of_below hb1) (some g)
  have O1 := HO.out.kept (grown_of_below hb1) (.inr (by simp [Value.ownBlock]))
  have S1 := HS.out.next hb1
  clear hb1 C
  rcases hi with ⟨rfl, hno⟩ | ⟨k, t, rfl, ht, hin, hno⟩
  · have HR : Hid (OwnT B w1 (.slice (some ⟨g, 0, none⟩) n cap) (outT ts us)) := Lib.hid (by
      rw [outT_all hno]; unfold OwnT; rw [HN.out]; exact O1)
    clear hno O1 S1
    go_wp2_with fail
    go_ret
    exact ⟨n, rfl, HR.out, G1⟩
  have hkn : k < n := by have := (List.getElem?_eq_some_iff.1 ht).1; have := HN.out; omega
  have T0 : Hid (outT (ts.take (k + 1)) us = ts.take k) := Lib.hid (by
    have e : ts.take (k + 1) = ts.take k ++ [t] := by rw [List.take_add_one, ht]; rfl
    rw [e, outT_snoc, if_pos (of_decide_eq_true hin), outT_all hno])
  have T1 : Hid (k = (outT (ts.take (k + 1)) us).length) := Lib.hid (by rw [T0.out, List.length_take]; have := HN.out; omega)
  have hk1 : ((k : Int) == -1) = false := beq_eq_false_iff_ne.2 (by omega)
  clear ht hin hno
  go_wp2_with fail
  go_loopw [5, 6, 7] (fun s5 s6 _ wr => ∃ (i j : Nat) (xs : List Value), s5 = .int .i64 i ∧ s6 = .int .i64 j ∧ j ≤ n ∧ i < j ∧ wr.ownsRow B 38 3 (.slice (some ⟨g, 0, none⟩) n cap) n xs ∧
    Hid (i = (outT (ts.take j) us).length ∧ xs.take (i * 3) = flat (outT (ts.take j) us) ∧ xs.drop (j * 3) = (flat ts).drop (j * 3)) ∧ Hid (OwnSet wr b m us) ∧ w.grownBy wr (some g)) (fun _ s6 _ _ => n - (intOf s6).toNat)
  case atStart => exact ⟨k, k + 1, flat ts, rfl, by go_num, by omega, by omega, O1, Lib.hid ⟨T1.out, by rw [T0.out, flat_take], rfl⟩, Lib.hid S1, G1⟩
  case round =>
    obtain ⟨i, j, xs, rfl, rfl, hjn, hij, hown, hinv, hset, hgr⟩ := hrel
    clear O1 S1 G1 T0 T1 hk1
    have hj6 : (0 : Int) ≤ (j : Int) := by omega
    have hi6 : (0 : Int) ≤ (i : Int) := by omega
    have hxl : xs.length = n * 3 := hown.1
    by_cases hlt : j < n
    · have hj7 : (j : Int) < (n : Int) := by omega
      have hi7 : (i : Int) < (n : Int) := by omega
      have ht : ts[j]? = some (ts[j]'(by have := HN.out; omega)) := List.getElem?_eq_getElem (by have := HN.out; omega)
      have HX : Hid (ts.take (j + 1) = ts.take j ++ [ts[j]'(by have := HN.out; omega)]) := Lib.hid (List.take_succ_eq_append_getElem (by have := HN.out; omega))
      have hsk := HM.out _ (List.mem_of_getElem? ht)
      generalize ts[j]'(by have := HN.out; omega) = u at ht HX hsk
      obtain ⟨f0, f1, f2⟩ := flat_at ts j u ht
      obtain ⟨u0, u1, u2⟩ := u
      simp only at f0 f1 f2
      have hd := hinv.out.2.2
      have d0 : wr.cell? ⟨g, j * 3, none⟩ = some (.string u0) := by rw [hown.cellAt _ (by omega), drop_at hd (by omega), f0]
      have d1 : wr.cell? ⟨g, j * 3 + 1, none⟩ = some (.string u1) := by rw [hown.cellAt _ (by omega), drop_at hd (by omega), f1]
      have d2 : wr.cell? ⟨g, j * 3 + 2, none⟩ = some (.string u2) := by rw [hown.cellAt _ (by omega), drop_at hd (by omega), f2]
      have B2 : w.grownBy (wr.alloc (.cells #[.string u0, .string u1, .string u2] 38)) (some g) := hgr.trans (World.grownBy_alloc wr _ (some g))
      have X2 := Box.new wr (.string u0) (.string u1) (.string u2) 38
      have O2 := hown.alloc (.cells #[.string u0, .string u1, .string u2] 38)
      have S2 := hset.out.alloc (.cells #[.string u0, .string u1, .string u2] 38)
      have hgr2 : g < wr.heap.size := Nat.lt_of_lt_of_le hgw hgr.size
      have C := implHas b m us u0 u1 u2 _ S2 hsk
      obtain ⟨c0, c1, c2⟩ := X2.cells
      cases hq : decide ((u0, u1, u2) ∈ us)
      · rw [hq] at C
        have HC := Lib.hid C
        have HN2 : Hid (outT (ts.take (j + 1)) us = outT (ts.take j) us ++ [(u0, u1, u2)]) := Lib.hid (by rw [HX.out, outT_snoc, if_neg (of_decide_eq_false hq)])
        clear C hq ht f0 f1 f2 hd hset hown hgr HX
        go_wp2_with fail
        refine HC.out.mono ?_
        rintro e w3 ⟨rfl, hb3⟩
        have O := O2.kept (grown_of_below hb3) (.inr (by simp [Value.ownBlock]))
        have S3 := Lib.hid (S2.next hb3)
        have B3 := B2.trans (grown_any (grown_of_below hb3) (some g))
        have X3 := X2.next hb3
        have hbw : b < w3.heap.size := S3.out.lt
        clear hb3 HC O2 S2 B2 X2 c0 c1 c2 d0 d1 d2
        obtain ⟨c0, c1, c2⟩ := X3.cells
        have e0 : w3.cell? ⟨g, i * 3, none⟩ = some (xs[i * 3]'(by omega)) := by rw [O.cellAt _ (by omega), List.getElem?_eq_getElem (by omega)]
        have e1 : w3.cell? ⟨g, i * 3 + 1, none⟩ = some (xs[i * 3 + 1]'(by omega)) := by rw [O.cellAt _ (by omega), List.getElem?_eq_getElem (by omega)]
        have e2 : w3.cell? ⟨g, i * 3 + 2, none⟩ = some (xs[i * 3 + 2]'(by omega)) := by rw [O.cellAt _ (by omega), List.getElem?_eq_getElem (by omega)]
        have f0 := O.frozenAt (i * 3)
        have f1 := O.frozenAt (i * 3 + 1)
        have f2 := O.frozenAt (i * 3 + 2)
        have O1 := (O.stored (i * 3) (.string u0)).1
        have O2 := (O1.stored (i * 3 + 1) (.string u1)).1
        have O3 := (O2.stored (i * 3 + 2) (.string u2)).1
        have HI : Hid (i + 1 = (outT (ts.take (j + 1)) us).length ∧ (((xs.set (i * 3) (.string u0)).set (i * 3 + 1) (.string u1)).set (i * 3 + 2) (.string u2)).take ((i + 1) * 3) = flat (outT (ts.take (j + 1)) us) ∧ (((xs.set (i * 3) (.string u0)).set (i * 3 + 1) (.string u1)).set (i * 3 + 2) (.string u2)).drop ((j + 1) * 3) = (flat ts).drop ((j + 1) * 3)) := Lib.hid (by
          obtain ⟨h1, h2, h3⟩ := hinv.out
          refine ⟨by rw [HN2.out, List.length_append, ← h1]; rfl, ?_, ?_⟩
          · rw [HN2.out, flat_snoc]; exact set3 _ _ _ h2 (by omega)
          · rw [drop_set3 (by omega), show (j + 1) * 3 = j * 3 + 3 from by omega, ← List.drop_drop, h3, List.drop_drop])
        have GG := Lib.hid (grown_set (grown_set (grown_set B3 (i * 3) (.string u0)) (i * 3 + 1) (.string u1)) (i * 3 + 2) (.string u2))
        have SS : Hid (OwnSet (((w3.setCell ⟨g, i * 3, none⟩ (.string u0)).setCell ⟨g, i * 3 + 1, none⟩ (.string u1)).setCell ⟨g, i * 3 + 2, none⟩ (.string u2)) b m us) := Lib.hid (S3.out.kept (grown_set (grown_set (grown_set (World.grownBy.refl w3 (some g)) (i * 3) (.string u0)) (i * 3 + 1) (.string u1)) (i * 3 + 2) (.string u2)) (fun e => hbg (Option.some.inj e)))
        have OO := Lib.hid O3
        generalize xs[i * 3]'(by omega) = z0 at e0
        generalize xs[i * 3 + 1]'(by omega) = z1 at e1
        generalize xs[i * 3 + 2]'(by omega) = z2 at e2
        clear O O1 O2 O3 hinv B3 S3 X3
        go_wp2_with fail
        go_roundw
        case rel => exact ⟨i + 1, j + 1, _, by go_num, by go_num, by omega, by omega, OO.out, HI, SS, GG.out⟩
        case measure => simp [intOf]; omega
      · rw [hq] at C
        have HC := Lib.hid C
        have HI : Hid (i = (outT (ts.take (j + 1)) us).length ∧ xs.take (i * 3) = flat (outT (ts.take (j + 1)) us) ∧ xs.drop ((j + 1) * 3) = (flat ts).drop ((j + 1) * 3)) := Lib.hid (by
          have e : outT (ts.take (j + 1)) us = outT (ts.take j) us := by rw [HX.out, outT_snoc, if_pos (of_decide_eq_true hq)]
          obtain ⟨h1, h2, h3⟩ := hinv.out
          refine ⟨by rw [e]; exact h1, by rw [e]; exact h2, ?_⟩
          rw [show (j + 1) * 3 = j * 3 + 3 from by omega, ← List.drop_drop, h3, List.drop_drop])
        clear C hq ht f0 f1 f2 hd hset hown hgr HX hinv
        go_wp2_with fail
        refine HC.out.mono ?_
        rintro e w3 ⟨rfl, hb3⟩
        have O := O2.kept (grown_of_below hb3) (.inr (by simp [Value.ownBlock]))
        have S3 := Lib.hid (S2.next hb3)
        have B3 := B2.trans (grown_any (grown_of_below hb3) (some g))
        clear hb3 HC O2 S2 B2 X2 c0 c1 c2 d0 d1 d2
        go_wp2_with fail
        go_roundw
        case rel => exact ⟨i, j + 1, xs, rfl, by go_num, by omega, by omega, O, HI, S3, B3⟩
        case measure => simp [intOf]; omega
    · obtain rfl : j = n := by omega
      have hci : ¬ cap = i := by omega
      have hl3 : (Builtin.zeroCells (Value.agg #[.string ⟨#[]⟩, .string ⟨#[]⟩, .string ⟨#[]⟩]).cells (j - i)).toList.length = (j - i) * 3 := by simp [Builtin.zeroCells, Value.cells]
      have hcl : ∀ ty, (Builtin.clear_ #[24] ty #[.slice (some ⟨g, i * 3, none⟩) (j - i) (cap - i)]).run Tryz.prog wr = .ok (.tuple #[]) (wr.setCells g (i * 3) (Builtin.zeroCells (Value.agg #[.string ⟨#[]⟩, .string ⟨#[]⟩, .string ⟨#[]⟩]).cells (j - i)).toList) :=
        fun ty => run_clear3 wr _ _ ty _ Tryz.underlying24 zeroTri rfl (by intro v hv; simp [Value.cells] at hv; rcases hv with rfl | rfl | rfl <;> rfl) g (i * 3) (j - i) (cap - i) (by omega)
          (fun q hq => by rw [hown.cellAt _ (by omega), List.getElem?_eq_getElem (by omega)]; rfl) (fun q _ => hown.frozenAt _)
      obtain ⟨L, hL⟩ : ∃ L, (Builtin.zeroCells (Value.agg #[.string ⟨#[]⟩, .string ⟨#[]⟩, .string ⟨#[]⟩]).cells (j - i)).toList = L := ⟨_, rfl⟩
      rw [hL] at hcl
      have HR : Hid (OwnT B (wr.setCells g (i * 3) L) (.slice (some ⟨g, 0, none⟩) i cap) (outT ts us)) := Lib.hid (by
        obtain ⟨h1, h2, _⟩ := hinv.out
        have et : ts.take j = ts := List.take_of_length_le (by rw [HN.out]; exact Nat.le_refl _)
        rw [et] at h1 h2
        obtain ⟨ys, o1, o2⟩ := own_setCells L (i * 3) wr xs hown
        have o3 := own_cut o1 (i := i) (by omega)
        unfold OwnT
        rw [← h1, ← h2, ← o2]; exact o3)
      have HG := Lib.hid (grown_setCells g L (i * 3) wr hgr)
      clear hinv hset hown hgr hL hl3
      go_wp2_with fail
      go_ret
      exact ⟨i, rfl, HR.out, HG.out⟩
end Go.Proofs.YtofkploffcplhaaGreat
/- A slice of triples of whatever length that is marked, from whatever number on. -/
namespace Go.Proofs.YtofkploffcplhaaGreat
open Go.RowKit Go.WideShapes
theorem dig_len : ∀ n : Nat, (dig n).length ≤ n := by
  intro n
  induction n using Nat.strongRecOn with
  | _ n ih =>
    rcases Nat.eq_zero_or_pos n with rfl | h
    · rw [dig_zero]; simp
    · rw [dig_step h, List.length_append, List.length_singleton]
      have := ih (n / 10) (by omega)
      omega
theorem marks_small (n : Nat) (hn : n ≤ 80) : ∀ t ∈ marksT n, t.1.size ≤ maxLen ∧ t.2.1.size ≤ maxLen ∧ t.2.2.size ≤ maxLen := by
  intro t ht
  unfold marksT at ht
  obtain ⟨i, hi, rfl⟩ := List.mem_map.1 ht
  have hi := List.mem_range.1 hi
  have a := dig_len (1 + 3 * i)
  have b := dig_len (1 + 3 * i + 1)
  have c := dig_len (1 + 3 * i + 2)
  unfold markT mark maxLen
  simp only [bs_size, List.length_cons]
  omega
end Go.Proofs.YtofkploffcplhaaGreat
/- A slice of triples that is marked from whatever number on, and looked at again. -/
namespace Go.Proofs.YtofkploffcplhaaGreat
open Go.RowKit Go.WideShapes
def markK (k0 i : Nat) : Tri3 := (mark (k0 + 3 * i), mark (k0 + 3 * i + 1), mark (k0 + 3 * i + 2))
def marksK (k0 n : Nat) : List Tri3 := (List.range n).map (markK k0)
theorem marksK_succ (k0 n : Nat) : marksK k0 (n + 1) = marksK k0 n ++ [markK k0 n] := by unfold marksK; rw [List.range_succ, List.map_append]; rfl
theorem marksK_len (k0 n : Nat) : (marksK k0 n).length = n := by simp [marksK]
theorem marksK_at {k0 n i : Nat} (h : i < n) : (marksK k0 n)[i]? = some (markK k0 i) := by unfold marksK; rw [List.getElem?_map, List.getElem?_range h]; rfl
theorem marksK_small (k0 n : Nat) (hn : n ≤ 1048576) (hk : k0 ≤ 40000000) : ∀ t ∈ marksK k0 n, t.1.size ≤ maxLen ∧ t.2.1.size ≤ maxLen ∧ t.2.2.size ≤ maxLen := by
  intro t ht
  unfold marksK at ht
  obtain ⟨i, hi, rfl⟩ := List.mem_map.1 ht
  have hi := List.mem_range.1 hi
  have a := dig_len (k0 + 3 * i)
  have b := dig_len (k0 + 3 * i + 1)
  have c := dig_len (k0 + 3 * i + 2)
  unfold markK mark maxLen
  simp only [bs_size, List.length_cons]
  omega
end Go.Proofs.YtofkploffcplhaaGreat
