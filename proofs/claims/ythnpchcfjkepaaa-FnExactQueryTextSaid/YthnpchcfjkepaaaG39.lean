/- The text of a rule: the program's and the specification's. -/
import Derived.Test.YthnpchcfjkepaaaG38
import Derived.Test.YthnpchcfjkepaaaG29
import Derived.Test.YthnpchcfjkepaaaG31
import Derived.Test.YthnpchcfjkepaaaG35
import Derived.Test.YthnpchcfjkepaaaG36
import Derived.Lib.AppendZeros
import Derived.Test.YthnpchcfjkepaaaG37
namespace Go.Proofs.Ythnpchcfjkepaaa
open Go.RowKit Go.WideShapes
def patL (t : Tri3) : List UInt8 := t.1.data.toList ++ 32 :: (t.2.1.data.toList ++ 32 :: (t.2.2.data.toList ++ [32, 46]))
def pats (ts : List Tri3) : List UInt8 := ts.flatMap fun t => patL t ++ [32]
def ruleL (ts : List Tri3) (h : Tri3) : List UInt8 := if ruleOk ts h then pats ts ++ (61 :: 62 :: 32 :: patL h) else []
theorem pats_snoc (ts : List Tri3) (t : Tri3) : pats (ts ++ [t]) = pats ts ++ (patL t ++ [32]) := by unfold pats; rw [List.flatMap_append]; simp
theorem patL_len (t : Tri3) : (patL t).length = t.1.size + t.2.1.size + t.2.2.size + 4 := by
  unfold patL; simp; omega
theorem pats_len {ts : List Tri3} (h : Sm ts) : (pats ts).length ≤ ts.length * 7000000 := by
  induction ts with
  | nil => simp [pats]
  | cons t r ih =>
    have ih := ih fun u hu => h u (List.mem_cons_of_mem _ hu)
    have ht := h t (List.mem_cons_self ..)
    have hl := patL_len t
    have e : pats (t :: r) = (patL t ++ [32]) ++ pats r := by simp [pats]
    rw [e, List.length_append, List.length_append, List.length_cons]
    simp only [List.length_cons, List.length_nil]
    omega
theorem rule_most {ts : List Tri3} {h : Tri3} (hr : ruleOk ts h = true) : ts.length ≤ 4 := by
  unfold ruleOk at hr
  simp only [Bool.and_eq_true] at hr
  have hb := hr.2.1
  unfold bgpOk at hb
  simp only [Bool.and_eq_true, decide_eq_true_eq] at hb
  exact hb.1
theorem pats_take {ts : List Tri3} {t : Tri3} (h : Sm ts) (hg : ruleOk ts t = true) (k : Nat) : (pats (ts.take k)).length ≤ 28000000 := by
  have a := pats_len (ts := ts.take k) fun t ht => h t (List.mem_of_mem_take ht)
  have b := rule_most hg
  have c : (ts.take k).length ≤ ts.length := by rw [List.length_take]; omega
  omega
theorem Box4.keeps {w w' : World} {g : Nat} {x y z u : Value} {T : TypeId} (h : Box4 w g x y z u T) (hk : Keeps w w') (h1 : T ≠ 88) (h2 : T ≠ 5) : Box4 w' g x y z u T := hk _ _ _ _ h h1 h2
theorem rt_one (x : ByteArray) : (x ++ { data := #[32] }).data.toList = x.data.toList ++ [32] := by simp
theorem rt_head (x : ByteArray) : ({ data := #[61, 62, 32] } ++ x : ByteArray).data.toList = 61 :: 62 :: 32 :: x.data.toList := by simp
theorem rt_line (y x : ByteArray) : y ++ x ++ { data := #[32] } = bs (y.data.toList ++ (x.data.toList ++ [32])) := by
  apply bs_eq
  simp
theorem rt_end (y x : ByteArray) : y ++ { data := #[61, 62, 32] } ++ x = bs (y.data.toList ++ (61 :: 62 :: 32 :: x.data.toList)) := by
  apply bs_eq
  simp
set_option maxRecDepth 100000 in
theorem specRulePat (s p o : ByteArray) (hs : s.size ≤ 2097152) (hp : p.size ≤ 2097152) (ho : o.size ≤ 2097152) (w : World) :
    Calls Try.prog 50 #[.agg #[.string s, .string p, .string o]] w fun e w' => e = .returned (.string (bs (patL (s, p, o)))) ∧ Below w.heap.size w w' := by
  have HJ := Lib.hid (join_text s p o)
  unfold patL
  go_enter Try.func50, Try.ntmps50
  go_wp2_with fail
  go_ret
  exact ⟨by rw [← HJ.out]; rfl, (Below.refl _ _).alloc (Nat.le_refl _) _⟩
end Go.Proofs.Ythnpchcfjkepaaa
/- Texts concatenated; the texts of patterns; what a query's text is. -/
namespace Go.Proofs.Ythnpchcfjkepaaa
open Go.RowKit Go.WideShapes Go.Maps
def catB (LS : List SlS) : List ByteArray := LS.flatMap fun x => x.2.2.2
theorem catB_take {LS : List SlS} {j : Nat} {x : SlS} (h : LS[j]? = some x) : catB (LS.take (j + 1)) = catB (LS.take j) ++ x.2.2.2 := by
  unfold catB; rw [List.take_add_one, h]; simp
theorem catB_le (LS : List SlS) (j : Nat) : (catB (LS.take j)).length ≤ (catB LS).length := by
  have : catB LS = catB (LS.take j) ++ catB (LS.drop j) := by unfold catB; rw [← List.flatMap_append, List.take_append_drop]
  rw [this, List.length_append]; omega
theorem wpList_zeros {ops : Array Oper} {rest : List Oper} {o : Oper} {a : Act} {w : World} {Q : Exit → Act → World → Prop} (hgd : o.guard = none) (s x : Operand)
    (ho : o.op = .call { callee := .builtin .append, args := #[s, x], argTypes := #[36, 3] }) (hs : a.eval s = .slice none 0 0) {k : Nat} (hx : a.eval x = .int .i64 k) {v' : Value} {w' : World}
    (hr : ∀ ty, (Builtin.append_ #[36, 3] ty #[.slice none 0 0, .int .i64 k]).run Try.prog w = .ok v' w') (h : wpList Try.prog ops Q rest (a.put o.dst v') w') : wpList Try.prog ops Q (o :: rest) a w :=
  wpList_plain hgd fun K hK => by
    unfold Oper.wp execOp
    simp only [ho, resolve, invoke, builtin, Sem.run_bind, Sem.run_pure, Result.andThen_ok, List.map_toArray, List.map_cons, List.map_nil, hs, hx, hr]
    exact hK _ _ h
set_option maxRecDepth 100000 in
set_option maxHeartbeats 1600000 in
theorem implGrowS (k : Nat) (w : World) (hk : k ≤ 1000000) :
    Calls Try.prog 83 #[.slice none 0 0, .int .i64 k] w fun e w' => ∃ v, e = .returned v ∧ OwnS w.heap.size w' v [] ∧ Below w.heap.size w w' := by
  by_cases h0 : k = 0
  · subst h0
    go_enter Try.func83, Try.ntmps83
    go_wp2_with fail
    go_ret
    exact ⟨_, rfl, World.ownsRow_nil .., Below.refl _ _⟩
  obtain ⟨i0, hi, hz0, hz1, hz2⟩ := info_parts infoStr
  have hrun := fun ty => Lib.run_append_nil_zeros (P := Try.prog) (ty := ty) w 36 3 9 i0 (.string ⟨#[]⟩) .i64 .i64 Try.underlying36 Try.underlying3 hi hz0 k (by omega) (by rw [hz1]; omega) (by omega) (by rw [hz2]; omega)
  have hge := grownCap_ge w k 0 9
  have hle := grownCap_le_maxLen w k 0 9 (by unfold maxLen; omega)
  obtain ⟨c, hc⟩ : ∃ c, grownCap w k 0 9 = c := ⟨_, rfl⟩
  rw [hc] at hge hle
  have hrun2 := fun ty => (hrun ty).trans (by rw [hc])
  obtain ⟨V, hV⟩ : ∃ V, w.drew.alloc (.cells (Builtin.zeroCells (Value.string ⟨#[]⟩).cells k ++ Builtin.zeroCells (Value.string ⟨#[]⟩).cells (c - k)) 9) = V := ⟨_, rfl⟩
  have HV : Hid (OwnS w.heap.size V (.slice (some ⟨w.heap.size, 0, none⟩) 0 c) [] ∧ Below w.heap.size w V) := Lib.hid (by
    rw [← hV]
    refine ⟨⟨rfl, .inr ⟨w.heap.size, c, _, rfl, Nat.le_refl _, heap_alloc_new w.drew _, Nat.zero_le _, hle, ?_, by simp⟩⟩, ((Below.refl w.heap.size w).drew).alloc (Nat.le_refl _) _⟩
    simp [Builtin.zeroCells, Value.cells]
    omega)
  have HR := Lib.hid (fun ty => (hrun2 ty).trans (by rw [hV]))
  have h1 : (0 : Int) < (k : Int) := by omega
  have h2 : (k : Int) ≤ (c : Int) := by omega
  clear hrun hrun2 hV hi hz0 hz1 hz2 hc hle
  go_enter Try.func83, Try.ntmps83
  go_wp2_with (at_builtin; refine wpList_zeros rfl _ _ rfl rfl rfl HR.out ?_)
  go_wp2_with fail
  go_ret
  exact ⟨_, rfl, HV.out.1, HV.out.2⟩
/-- 'append(s, x...)' of texts: s is the call's own, x anything. -/
theorem wpList_moreSS {ops : Array Oper} {rest : List Oper} {o : Oper} {a : Act} {w : World} {Q : Exit → Act → World → Prop} (hgd : o.guard = none) (s x : Operand)
    (ho : o.op = .call { callee := .builtin .append, args := #[s, x], argTypes := #[36, 36] }) {B : Nat} {v : Value} {L : List ByteArray} (hs : a.eval s = v) (h : OwnS B w v L) (hB : B ≤ w.heap.size) (hll : L.length ≤ 1048576)
    (ad : Option Addr) (n c : Nat) (ts : List ByteArray) (hx : a.eval x = .slice ad n c) (hi : IsStrs w ad n c ts) (hl : n ≤ 1048576)
    (k : ∀ (v' : Value) (w' : World), OwnS B w' v' (L ++ ts) → w.grownBy w' v.ownBlock → wpList Try.prog ops Q rest (a.put o.dst v') w') : wpList Try.prog ops Q (o :: rest) a w := by
  refine wpList_plain hgd fun K hK => ?_
  obtain ⟨i0, hi0, hz0, hz1, hz2⟩ := info_parts infoStr
  rcases hi with ⟨rfl, rfl, rfl, rfl⟩ | ⟨y, rfl, h1, h2, h3, h4⟩
  · have hrun := run_append_owned_none (P := Try.prog) (w := w) B 36 o.type 9 i0 1 Try.underlying36 hi0 _ _ _ h
    unfold Oper.wp
    simp [execOp, ho, resolve, invoke, builtin, hs, hx, hrun, Result.andThen]
    exact hK _ _ (k _ _ (by rw [List.append_nil]; exact h) (World.grownBy.refl _ _))
  · obtain ⟨v', w', hr, ho1, hg1, _, hat⟩ := run_append_own_at (P := Try.prog) (w := w) B 36 o.type 9 i0 (.string ⟨#[]⟩) 1 16 Try.underlying36 hi0 hz0 hz1 hz2 rfl (by decide) v L.length _ h y n c (ts.map strV) (by rw [List.length_map, h3]; omega) (fun j u hj => by
      rw [List.getElem?_map] at hj
      obtain ⟨t, ht, rfl⟩ := Option.map_eq_some_iff.1 hj
      exact h4 j t ht) (fun u hu => by obtain ⟨t, _, rfl⟩ := List.mem_map.1 hu; rfl) (by unfold maxLen; omega) (by omega) hB
    have O1 : OwnS B w' v' (L ++ ts) := by unfold OwnS; rw [List.length_append, h3, List.map_append]; exact ho1
    unfold Oper.wp
    simp [execOp, ho, resolve, invoke, builtin, hs, hx, hr, Result.andThen]
    exact hK _ _ (k _ _ O1 hg1)
set_option maxRecDepth 100000 in
set_option maxHeartbeats 3200000 in
theorem implConcat (B n : Nat) (LS : List SlS) (w : World) (hn : LS.length = n) (hB : B < w.heap.size) (hn4 : n ≤ 4) (hT : (catB LS).length ≤ 1000)
    (hLS : ∀ (i : Nat) (x : SlS), LS[i]? = some x → w.cell? ⟨B, i, none⟩ = some (.slice x.1 x.2.1 x.2.2.1) ∧ IsStrs w x.1 x.2.1 x.2.2.1 x.2.2.2) :
    Calls Try.prog 51 #[.slice (some ⟨B, 0, none⟩) n n] w fun e w' => ∃ v, e = .returned v ∧ OwnS w.heap.size w' v (catB LS) ∧ Below w.heap.size w w' := by
  have HLS := Lib.hid hLS
  have HN := Lib.hid hn
  have HT := Lib.hid hT
  clear hLS hn hT
  go_enter Try.func51, Try.ntmps51
  go_wp2_with fail
  go_loopw [3, 11] (fun s i wr => ∃ j m : Nat, j ≤ n ∧ i = .int .i64 j ∧ s = .int .i64 m ∧ Hid ((catB (LS.take j)).length = m) ∧ Below w.heap.size w wr) (fun _ i _ => n - (intOf i).toNat)
  case atStart => exact ⟨0, 0, Nat.zero_le _, rfl, rfl, Lib.hid (by simp [catB]), Below.refl _ _⟩
  case round =>
    obtain ⟨j, m, hj, rfl, rfl, hm, hnx⟩ := hrel
    have hj6 : (0 : Int) ≤ (j : Int) := by omega
    have hmb : m ≤ 1000 := by have := catB_le LS j; have := HT.out; have := hm.out; omega
    by_cases hlt : j < n
    · have hx : LS[j]? = some (LS[j]'(by rw [HN.out]; exact hlt)) := List.getElem?_eq_getElem _
      obtain ⟨hc, his⟩ := HLS.out j _ hx
      have hct := catB_take hx
      have hle := catB_le LS (j + 1)
      generalize LS[j]'(by rw [HN.out]; exact hlt) = x at hx hc his hct
      obtain ⟨a, len, cap, ts⟩ := x
      simp only at hc his hct
      have hlen := his.len
      have HM : Hid ((catB (LS.take (j + 1))).length = m + len) := Lib.hid (by rw [hct, List.length_append, hm.out, hlen])
      have hsum : m + len ≤ 1000 := by have := HM.out; have := HT.out; omega
      rw [← hnx.cell (p := ⟨B, j, none⟩) hB] at hc
      have hj7 : (j : Int) < (n : Int) := by omega
      have hs0 : ¬ ((m : Int) + (len : Int)) < 0 := by omega
      clear hx his hlen hct hle hm
      go_wp2_with fail
      go_roundw
      case rel => exact ⟨j + 1, m + len, by omega, by go_num, by first | rfl | go_num, HM, hnx⟩
      case measure => simp [intOf]; omega
    · obtain rfl : j = n := by omega
      have HM : Hid ((catB LS).length = m) := Lib.hid (by
        have := hm.out
        rwa [List.take_of_length_le (by rw [HN.out]; exact Nat.le_refl _)] at this)
      have HG := Lib.hid (implGrowS m wr (by omega))
      clear hm
      go_wp2_with fail
      refine HG.out.mono ?_
      rintro e w1 ⟨v, rfl, ho, hb⟩
      have B1 := hnx.trans (hb.mono hnx.size)
      have O1 := Lib.hid (ownS_base ho hnx.size)
      clear ho hb HG hnx
      go_wp2_with fail
      clear hlt hj6 hj
      go_loopw [6, 27] (fun u i wr => ∃ (q : Nat) (v : Value), q ≤ j ∧ i = .int .i64 q ∧ v = u ∧ Hid (OwnS w.heap.size wr v (catB (LS.take q))) ∧ Below w.heap.size w wr) (fun _ i _ => j - (intOf i).toNat)
      case atStart => exact ⟨0, _, Nat.zero_le _, rfl, rfl, by simpa [catB] using O1, B1⟩
      case round =>
        obtain ⟨q, v, hq, rfl, rfl, hown, hnx⟩ := hrel
        clear O1 B1
        have hq6 : (0 : Int) ≤ (q : Int) := by omega
        by_cases hlq : q < j
        · have hx : LS[q]? = some (LS[q]'(by rw [HN.out]; exact hlq)) := List.getElem?_eq_getElem _
          obtain ⟨hc, his⟩ := HLS.out q _ hx
          have hct := catB_take hx
          have hle := catB_le LS (q + 1)
          have hle0 := catB_le LS q
          generalize LS[q]'(by rw [HN.out]; exact hlq) = x at hx hc his hct
          obtain ⟨a, len, cap, ts⟩ := x
          simp only at hc his hct
          have hlen := his.len
          have HI := Lib.hid (his.next hnx)
          have HCT := Lib.hid hct
          have hl1 : len ≤ 1000 := by have := HT.out; rw [hct, List.length_append] at hle; omega
          have hl0 : (catB (LS.take q)).length ≤ 1048576 := by have := HT.out; omega
          rw [← hnx.cell (p := ⟨B, q, none⟩) hB] at hc
          have hq7 : (q : Int) < (j : Int) := by omega
          have HLT := Lib.hid (fun i hi => (World.ownsRow.lt hown.out i hi).1)
          clear hx his hlen hct hle hle0
          go_wp2_with (at_builtin; refine wpList_moreSS rfl _ _ rfl rfl hown.out hnx.size hl0 a len cap ts rfl HI.out (by omega) ?_)
          intro v3 w3 o3 hg3
          have B3 := hnx.grown hg3 hnx.size (fun i hi => HLT.out i hi)
          have O3 : Hid (OwnS w.heap.size w3 v3 (catB (LS.take (q + 1)))) := Lib.hid (by rw [HCT.out]; exact o3)
          clear o3 hg3 hnx hown HI HCT HLT hc
          go_wp2_with fail
          go_roundw
          case rel => exact ⟨q + 1, _, by omega, by go_num, rfl, O3, B3⟩
          case measure => simp [intOf]; omega
        · obtain rfl : q = j := by omega
          have HR : Hid (OwnS w.heap.size wr v (catB LS)) := Lib.hid (by
            have := hown.out
            rwa [List.take_of_length_le (by rw [HN.out]; exact Nat.le_refl _)] at this)
          clear hown
          go_wp2_with fail
          go_ret
          exact ⟨_, rfl, HR.out, hnx⟩
def patB (t : Tri3) : ByteArray := bs (patL t)
set_option maxRecDepth 100000 in
set_option maxHeartbeats 1600000 in
theorem implPointedAll (a : Option Addr) (len cap : Nat) (ts : List Tri3) (w : World) (h : IsTris w a len cap ts) (hs : Sm ts) (hl : len ≤ 4) :
    Calls Try.prog 52 #[.slice a len cap] w fun e w' => ∃ v, e = .returned v ∧ OwnS w.heap.size w' v (ts.map patB) ∧ Below w.heap.size w w' := by
  have H := Lib.hid h
  have HT := Lib.hid h.len
  have HS := Lib.hid hs
  clear h hs
  go_enter Try.func52, Try.ntmps52
  go_wp2_with fail
  go_loopw [3, 8] (fun v i wr => ∃ (k : Nat) (u : Value), k ≤ len ∧ i = .int .i64 k ∧ u = v ∧ Hid (OwnS w.heap.size wr u ((ts.take k).map patB)) ∧ Below w.heap.size w wr) (fun _ i _ => len - (intOf i).toNat)
  case atStart => exact ⟨0, _, Nat.zero_le _, rfl, rfl, Lib.hid (World.ownsRow_nil ..), Below.refl _ _⟩
  case round =>
    obtain ⟨k, u, hk, rfl, rfl, hown, hnx⟩ := hrel
    have hk6 : (0 : Int) ≤ (k : Int) := by omega
    by_cases hlt : k < len
    · obtain ⟨b, off, rfl, hb, _, _, hts, hcs⟩ := H.out.cells (by omega)
      have ht : ts[k]? = some (ts[k]'(by omega)) := List.getElem?_eq_getElem (by omega)
      obtain ⟨c0, c1, c2, mm⟩ := hcs k _ ht
      rw [← hnx.cell (p := ⟨b, _, none⟩) hb] at c0 c1 c2
      obtain ⟨s1, s2, s3⟩ := HS.out _ (List.mem_of_getElem? ht)
      have HK : Hid (ts.take (k + 1) = ts.take k ++ [ts[k]'(by omega)]) := Lib.hid (List.take_succ_eq_append_getElem (by omega))
      generalize ts[k]'(by omega) = t at ht c0 c1 c2 mm s1 s2 s3 HK
      obtain ⟨x, y, z⟩ := t
      simp only at c0 c1 c2 mm s1 s2 s3
      have hk7 : (k : Int) < (len : Int) := by omega
      have hkl : ((ts.take k).map patB).length ≤ 12 := by rw [List.length_map, List.length_take]; omega
      have HN : Hid ((ts.take (k + 1)).map patB = (ts.take k).map patB ++ [patB (x, y, z)]) := Lib.hid (by rw [HK.out, List.map_append, List.map_singleton])
      obtain ⟨L, hL⟩ : ∃ L, (ts.take k).map patB = L := ⟨_, rfl⟩
      rw [hL] at hown HN hkl
      have E' := implPointed x y z s1 s2 s3
      rw [show bs (x.data.toList ++ 32 :: (y.data.toList ++ 32 :: (z.data.toList ++ [32, 46]))) = patB (x, y, z) from rfl] at E'
      obtain ⟨pb, hpb⟩ : ∃ b, patB (x, y, z) = b := ⟨_, rfl⟩
      rw [hpb] at E' HN
      have E := Lib.hid E'
      have X1 := cells_new wr #[.string x, .string y, .string z] 34
      have e0 := X1.now.at 0
      have e1 := X1.now.at 1
      have e2 := X1.now.at 2
      have HA := Lib.hid (hown.out.kept ((Below.refl wr.heap.size wr).alloc (Nat.le_refl _) (.cells #[.string x, .string y, .string z] 34)))
      have B1 := hnx.alloc hnx.size (.cells #[.string x, .string y, .string z] 34)
      have HLT := Lib.hid (fun j hj => (World.ownsRow.lt hown.out j hj).1)
      clear hts hcs ht mm hL hown hnx HK X1 E' hpb
      go_wp2_with fail
      refine (E.out _).mono ?_
      rintro e w2 ⟨rfl, hb2⟩
      have B2 := Lib.hid ((B1.trans (hb2.mono B1.size)).alloc (B1.trans (hb2.mono B1.size)).size (.cells #[.string pb] 9))
      have HA2 := Lib.hid ((HA.out.kept hb2).kept ((Below.refl _ _).alloc (Nat.le_refl _) (.cells #[.string pb] 9)))
      have HC := Lib.hid ((cells_new w2 #[.string pb] 9).now.at 0)
      clear hb2 B1 HA e0 e1 e2 c0 c1 c2
      go_wp2_with (at_builtin; refine wpList_moreS rfl _ _ rfl rfl HA2.out B2.out.size w2.heap.size rfl HC.out (by omega) ?_)
      intro v3 w3 o3 hg3 _
      have B3 := B2.out.grown hg3 B2.out.size (fun j hj => HLT.out j hj)
      have O3 : Hid (OwnS w.heap.size w3 v3 ((ts.take (k + 1)).map patB)) := Lib.hid (by rw [HN.out]; exact o3)
      clear o3 hg3 HA2 HC B2 HLT HN
      go_wp2_with fail
      go_roundw
      case rel => exact ⟨k + 1, _, by omega, by go_num, rfl, O3, B3⟩
      case measure => simp [intOf]; omega
    · obtain rfl : k = len := by omega
      have HR : Hid (OwnS w.heap.size wr u (ts.map patB)) := Lib.hid (by
        have := hown.out
        rwa [List.take_of_length_le (by rw [HT.out]; exact Nat.le_refl _)] at this)
      go_wp2_with fail
      go_ret
      exact ⟨_, rfl, HR.out, hnx⟩
end Go.Proofs.Ythnpchcfjkepaaa
/- A query's text: the program. -/
namespace Go.Proofs.Ythnpchcfjkepaaa
open Go.RowKit Go.WideShapes Go.Maps
abbrev selB : ByteArray := ⟨#[115, 101, 108, 101, 99, 116]⟩
abbrev wheB : ByteArray := ⟨#[119, 104, 101, 114, 101]⟩
abbrev alsB : ByteArray := ⟨#[97, 108, 115, 111]⟩
def alsoW (t2 : List Tri3) : List ByteArray := if t2.length = 0 then [] else alsB :: t2.map patB
/-- The words of a query's text. -/
def qWords (vs : List ByteArray) (t1 t2 : List Tri3) : List ByteArray := [selB] ++ vs ++ [wheB] ++ t1.map patB ++ alsoW t2
def queryTx (vs : List ByteArray) (t1 t2 : List Tri3) : List UInt8 := if queryOk vs t1 t2 then Lib.join ((qWords vs t1 t2).map (·.data.toList)) [32] else []
theorem patB_size {t : Tri3} (h : t.1.size ≤ 2097152 ∧ t.2.1.size ≤ 2097152 ∧ t.2.2.size ≤ 2097152) : (patB t).size ≤ 6291460 := by
  unfold patB
  rw [bs_size, patL_len]; omega
theorem joinTail_most : ∀ (l : List ByteArray), (∀ x ∈ l, x.size ≤ 6291460) → (Lib.joinTail [32] (l.map (·.data.toList))).length ≤ 6291461 * l.length
  | [], _ => by simp [Lib.joinTail]
  | x :: l, h => by
    have h1 := joinTail_most l (fun y hy => h y (by simp [hy]))
    have h2 := h x (by simp)
    have e : x.data.toList.length = x.size := rfl
    unfold Lib.joinTail at h1 ⊢
    simp only [List.map_cons, List.flatten_cons, List.length_append, List.length_cons, List.length_nil]
    rw [e]
    omega
theorem qWords_most {vs : List ByteArray} {t1 t2 : List Tri3} (hv : ∀ x ∈ vs, x.size ≤ 1048576) (h1 : Sm t1) (h2 : Sm t2) : ∀ x ∈ qWords vs t1 t2, x.size ≤ 6291460 := by
  intro x hx
  unfold qWords alsoW at hx
  simp only [List.mem_append, List.mem_singleton] at hx
  rcases hx with (((rfl | h) | rfl) | h) | h
  · decide
  · have := hv x h; omega
  · decide
  · obtain ⟨t, ht, rfl⟩ := List.mem_map.1 h
    exact patB_size (h1 t ht)
  · split at h
    · simp at h
    · rcases List.mem_cons.1 h with rfl | h
      · decide
      · obtain ⟨t, ht, rfl⟩ := List.mem_map.1 h
        exact patB_size (h2 t ht)
theorem qWords_len {vs : List ByteArray} {t1 t2 : List Tri3} (h : queryOk vs t1 t2 = true) : (qWords vs t1 t2).length ≤ 15 := by
  obtain ⟨_, hb1, hb2, _, h4⟩ := queryOk_vs h
  have l1 : t1.length ≤ 4 := by unfold bgpOk at hb1; simp only [Bool.and_eq_true, decide_eq_true_eq] at hb1; exact hb1.1
  have l2 : t2.length ≤ 4 := by unfold bgpOk at hb2; simp only [Bool.and_eq_true, decide_eq_true_eq] at hb2; exact hb2.1
  unfold qWords alsoW
  split <;> simp only [List.length_append, List.length_cons, List.length_nil, List.length_map] <;> omega
theorem queryTx_most {vs : List ByteArray} {t1 t2 : List Tri3} (h : queryOk vs t1 t2 = true) (hv : ∀ x ∈ vs, x.size ≤ 1048576) (h1 : Sm t1) (h2 : Sm t2) : (Lib.join ((qWords vs t1 t2).map (·.data.toList)) [32]).length ≤ 200000000 := by
  have a := qWords_most hv h1 h2
  have b := qWords_len h
  have e : qWords vs t1 t2 = selB :: (vs ++ [wheB] ++ t1.map patB ++ alsoW t2) := by unfold qWords; simp
  rw [e] at a b ⊢
  rw [List.map_cons, Lib.join_cons, List.length_append]
  have := joinTail_most _ (fun y hy => a y (List.mem_cons_of_mem _ hy))
  rw [List.length_cons] at b
  have s : (selB).data.toList.length = 6 := rfl
  rw [s]
  omega
theorem isStr_one {w : World} {g : Nat} {x : ByteArray} (h : w.cell? ⟨g, 0, none⟩ = some (.string x)) : IsStrs w (some ⟨g, 0, none⟩) 1 1 [x] := .inr ⟨_, rfl, Nat.le_refl _, by unfold maxLen; omega, rfl, fun i t hi => by
  obtain rfl : i = 0 := by have := (List.getElem?_eq_some_iff.1 hi).1; simp at this; omega
  simp at hi; subst hi; simpa [Addr.add] using h⟩
/-- Texts of the call's own, joined. -/
theorem implJoinS {B : Nat} {w : World} {v : Value} {ts : List ByteArray} (h : OwnS B w v ts) (h0 : ts.length ≠ 0) (hl : ts.length ≤ 1000) (hm : (Lib.join (ts.map (·.data.toList)) [32]).length ≤ 140737488355328) :
    Calls Try.prog 53 #[v, .string ⟨#[32]⟩] w fun e w' => e = .returned (.string (bs (Lib.join (ts.map (·.data.toList)) [32]))) ∧ Below w.heap.size w w' := by
  obtain ⟨a, c, rfl, i⟩ := h.is
  obtain ⟨b, off, rfl, hb, hc, hm2, _, hcs⟩ := i.cells (by omega)
  exact (Try.strings_Join b off c ts ⟨#[32]⟩ w hcs hb (by omega) hc hm).mono fun e w' ⟨he, hw⟩ => ⟨he, hw⟩
set_option maxRecDepth 100000 in
set_option maxHeartbeats 12800000 in
theorem implQueryText0 (a0 a1 a2 : Option Addr) (n0 n1 n2 c0 c1 c2 : Nat) (vs : List ByteArray) (t1 t2 : List Tri3) (w : World) (h : IsQry w a0 a1 a2 n0 n1 n2 c0 c1 c2 vs t1 t2) (_hvz : ∀ x ∈ vs, x.size ≤ 1048576) (h1 : Sm t1) (h2 : Sm t2) (l0 : n0 ≤ 1048576) (hk : queryOk vs t1 t2 = false) :
    Calls Try.prog 21 #[.agg #[.slice a0 n0 c0, .slice a1 n1 c1, .slice a2 n2 c2]] w fun e w' => e = .returned (.string (bs (queryTx vs t1 t2))) ∧ Below w.heap.size w w' := by
  have B0 := Lib.hid ((Below.refl w.heap.size w).alloc (Nat.le_refl _) (.cells #[.slice a0 n0 c0, .slice a1 n1 c1, .slice a2 n2 c2] 43))
  have X0 := Lib.hid (cells_new w #[.slice a0 n0 c0, .slice a1 n1 c1, .slice a2 n2 c2] 43)
  have I0 := Lib.hid (h.next ((Below.refl w.heap.size w).alloc (Nat.le_refl _) (.cells #[.slice a0 n0 c0, .slice a1 n1 c1, .slice a2 n2 c2] 43)))
  have HV := Lib.hid h.1.1.len
  have HT1 := Lib.hid h.2.1.len
  have HT2 := Lib.hid h.2.2.len
  have HS1 := Lib.hid h1
  have HS2 := Lib.hid h2
  obtain ⟨q, hq⟩ : ∃ q, queryTx vs t1 t2 = q := ⟨_, rfl⟩
  rw [hq]
  unfold queryTx at hq
  have C1 := fun (W : World) (hi : IsQry W a0 a1 a2 n0 n1 n2 c0 c1 c2 vs t1 t2) => implQueryOk a0 a1 a2 n0 n1 n2 c0 c1 c2 vs t1 t2 W hi HS1.out HS2.out l0
  rw [hk] at C1 hq
  have D1 := Lib.hid C1
  have HQ := Lib.hid hq
  clear C1 hq h h1 h2
  go_enter Try.func21, Try.ntmps21
  obtain ⟨v, u, z⟩ := X0.out.now.tre
  go_wp2_with fail
  refine (D1.out _ I0.out).mono ?_
  rintro e w1 ⟨rfl, hb⟩
  have B1 := Lib.hid (B0.out.trans (hb.mono B0.out.size))
  have X1 := Lib.hid (X0.out.next hb)
  have I1 := Lib.hid (I0.out.next hb)
  clear hb B0 X0 I0
  clear v u z
  go_wp2_with fail
  go_ret
  exact ⟨by rw [← HQ.out]; rfl, B1.out⟩
end Go.Proofs.Ythnpchcfjkepaaa
