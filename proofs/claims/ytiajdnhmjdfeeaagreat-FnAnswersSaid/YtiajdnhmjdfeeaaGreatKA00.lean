/- The text of rows: both sides. -/
import Derived.Test.YtiajdnhmjdfeeaaGreatKAS
import Derived.Test.YtiajdnhmjdfeeaaGreatK27
import Derived.Test.YtiajdnhmjdfeeaaGreatK25
import Derived.Test.YtiajdnhmjdfeeaaGreatK05
import Derived.Test.YtiajdnhmjdfeeaaGreatK11
import Derived.Test.YtiajdnhmjdfeeaaGreatK14
import Derived.Test.YtiajdnhmjdfeeaaGreatK15
import Derived.Lib.Join
namespace Go.Proofs.YtiajdnhmjdfeeaaGreat
open Go.RowKit Go.WideShapes
def rowP (p : Pre2) : List UInt8 := p.1.data.toList ++ 61 :: p.2.data.toList
def rowL (r : RowV) : List UInt8 := Lib.join (r.map rowP) [32]
def rowsL (rs : List RowV) : List UInt8 := rs.flatMap fun r => rowL r ++ [10]
def rowsTx (rs : List RowV) : List UInt8 := if rowsOkL rs then rowsL rs else []
theorem join_snoc (x : List UInt8) (sep : List UInt8) : ∀ xs : List (List UInt8), Lib.join (xs ++ [x]) sep = if xs.length = 0 then x else Lib.join xs sep ++ (sep ++ x)
  | [] => by simp [Lib.join_one]
  | y :: ys => by
    rw [List.cons_append, Lib.join_cons, Lib.join_cons, if_neg (by simp)]
    simp [Lib.joinTail]
theorem rowL_snoc (r : RowV) (p : Pre2) : rowL (r ++ [p]) = if r.length = 0 then rowP p else rowL r ++ (32 :: rowP p) := by
  unfold rowL
  rw [List.map_append, List.map_singleton, join_snoc, List.length_map]
  rfl
theorem rowsL_snoc (rs : List RowV) (r : RowV) : rowsL (rs ++ [r]) = rowsL rs ++ (rowL r ++ [10]) := by unfold rowsL; rw [List.flatMap_append]; simp
theorem rowP_len (p : Pre2) : (rowP p).length = p.1.size + p.2.size + 1 := by
  unfold rowP
  have h1 : p.1.data.toList.length = p.1.size := rfl
  have h2 : p.2.data.toList.length = p.2.size := rfl
  simp only [List.length_append, List.length_cons]; omega
theorem rowL_most : ∀ (n : Nat) (r : RowV), r.length = n → SmP r → (rowL r).length ≤ 2097160 * n
  | 0, r, h, _ => by rw [List.length_eq_zero_iff.1 h]; simp [rowL, Lib.join_nil]
  | n + 1, r, h, hs => by
    obtain ⟨q, p, rfl⟩ : ∃ q p, r = q ++ [p] := ⟨r.dropLast, r.getLast (by intro e; rw [e] at h; simp at h), (List.dropLast_concat_getLast _).symm⟩
    rw [List.length_append, List.length_singleton] at h
    have ih := rowL_most n q (by omega) (fun t ht => hs t (by simp [ht]))
    have hp := hs p (by simp)
    have hl := rowP_len p
    rw [rowL_snoc]
    split
    · omega
    · rw [List.length_append, List.length_cons]; omega
theorem rowsL_most : ∀ (rs : List RowV), (∀ r ∈ rs, r.length ≤ 12 ∧ SmP r) → (rowsL rs).length ≤ 25165930 * rs.length
  | [], _ => by simp [rowsL]
  | r :: rs, h => by
    have h1 := rowsL_most rs (fun q hq => h q (by simp [hq]))
    have h2 := rowL_most r.length r rfl (h r (by simp)).2
    have h3 := (h r (by simp)).1
    have e : rowsL (r :: rs) = rowL r ++ [10] ++ rowsL rs := by simp [rowsL]
    rw [e]
    simp only [List.length_append, List.length_cons, List.length_nil]
    omega
theorem rowsOk_12 {rs : List RowV} (h : rowsOkL rs = true) : rs.length ≤ 300 ∧ ∀ r ∈ rs, r.length ≤ 12 := by
  unfold rowsOkL at h
  rw [Bool.and_eq_true, decide_eq_true_eq, List.all_eq_true] at h
  refine ⟨h.1, fun r hr => ?_⟩
  have := h.2 r hr
  unfold rowOk at this
  simp only [Bool.and_eq_true, decide_eq_true_eq] at this
  exact this.1
theorem rowsL_take {rs : List RowV} (h : rowsOkL rs = true) (hs : SmR rs) (k : Nat) : (rowsL (rs.take k)).length ≤ 8000000000 := by
  have h1 := rowsL_most (rs.take k) (fun r hr => ⟨(rowsOk_12 h).2 r (List.mem_of_mem_take hr), hs r (List.mem_of_mem_take hr)⟩)
  have h2 : (rs.take k).length ≤ rs.length := by rw [List.length_take]; omega
  have := (rowsOk_12 h).1
  omega
/-- One more text, appended. -/
theorem wpList_moreS {ops : Array Oper} {rest : List Oper} {o : Oper} {a : Act} {w : World} {Q : Exit → Act → World → Prop} (hgd : o.guard = none) (s x : Operand)
    (ho : o.op = .call { callee := .builtin .append, args := #[s, x], argTypes := #[23, 23] }) {B : Nat} {v : Value} {L : List ByteArray} {t : ByteArray} (hs : a.eval s = v) (h : OwnS B w v L) (hB : B ≤ w.heap.size)
    (q : Nat) (hx : a.eval x = .slice (some ⟨q, 0, none⟩) 1 1) (hq : w.cell? ⟨q, 0, none⟩ = some (.string t)) (hl : L.length ≤ 1048576)
    (k : ∀ (v' : Value) (w' : World), OwnS B w' v' (L ++ [t]) → w.grownBy w' v.ownBlock → (v'.ownBlock = v.ownBlock ∨ v'.ownBlock = some w.heap.size) → wpList Tryz.prog ops Q rest (a.put o.dst v') w') : wpList Tryz.prog ops Q (o :: rest) a w := by
  refine wpList_plain hgd fun K hK => ?_
  obtain ⟨i0, hi, hz0, hz1, hz2⟩ := info_parts infoStr
  obtain ⟨v', w', hr, ho1, hg1, _, hat⟩ := run_append_own_at (P := Tryz.prog) (w := w) B 23 o.type 9 i0 (.string ⟨#[]⟩) 1 16 Tryz.underlying23 hi hz0 hz1 hz2 rfl (by decide) v L.length _ h ⟨q, 0, none⟩ 1 1 [.string t] rfl (fun j y hy => by
      rcases j with _ | j
      · simp at hy; subst hy; simpa [Addr.add] using hq
      · simp at hy) (fun y hy => by simp at hy; subst hy; rfl) (by unfold maxLen; omega) (by omega) hB
  unfold Oper.wp
  simp [execOp, ho, resolve, invoke, builtin, hs, hx, hr, Result.andThen]
  exact hK _ _ (k v' w' (ownS_snoc ho1) hg1 hat)
def pairB (p : Pre2) : ByteArray := bs (rowP p)
theorem pair_sum (p : Pre2) : p.1 ++ ({ data := #[61] } : ByteArray) ++ p.2 = pairB p := by
  unfold pairB rowP
  apply bs_eq
  simp
set_option maxRecDepth 100000 in
set_option maxHeartbeats 1600000 in
theorem implPairTexts (a : Option Addr) (len cap : Nat) (r : RowV) (w : World) (h : IsPres w a len cap r) (hs : SmP r) (hl : len ≤ 12) :
    Calls Tryz.prog 69 #[.slice a len cap] w fun e w' => ∃ v, e = .returned v ∧ OwnS w.heap.size w' v (r.map pairB) ∧ Below w.heap.size w w' := by
  have H := Lib.hid h
  have HT := Lib.hid h.len
  have HS := Lib.hid hs
  clear h hs
  go_enter Tryz.func69, Tryz.ntmps69
  go_wp2_with fail
  go_loopw [3, 8] (fun v i wr => ∃ (k : Nat) (u : Value), k ≤ len ∧ i = .int .i64 k ∧ u = v ∧ Hid (OwnS w.heap.size wr u ((r.take k).map pairB)) ∧ Below w.heap.size w wr) (fun _ i _ => len - (intOf i).toNat)
  case atStart => exact ⟨0, _, Nat.zero_le _, rfl, rfl, Lib.hid (World.ownsRow_nil ..), Below.refl _ _⟩
  case round =>
    obtain ⟨k, u, hk, rfl, rfl, hown, hnx⟩ := hrel
    have hk6 : (0 : Int) ≤ (k : Int) := by omega
    by_cases hlt : k < len
    · obtain ⟨b, off, rfl, hb, _, _, hts, hcs⟩ := H.out.cells (by omega)
      have ht : r[k]? = some (r[k]'(by omega)) := List.getElem?_eq_getElem (by omega)
      obtain ⟨c0, c1, m0, m1⟩ := hcs k _ ht
      rw [← hnx.cell (p := ⟨b, _, none⟩) hb] at c0 c1
      have hsz := HS.out _ (List.mem_of_getElem? ht)
      have HK : Hid (r.take (k + 1) = r.take k ++ [r[k]'(by omega)]) := Lib.hid (List.take_succ_eq_append_getElem (by omega))
      generalize r[k]'(by omega) = t at ht c0 c1 m0 m1 hsz HK
      obtain ⟨y, z⟩ := t
      simp only at c0 c1 m0 m1 hsz
      have hk7 : (k : Int) < (len : Int) := by omega
      have hkl : ((r.take k).map pairB).length ≤ 12 := by rw [List.length_map, List.length_take]; omega
      have HN : Hid ((r.take (k + 1)).map pairB = (r.take k).map pairB ++ [y ++ ({ data := #[61] } : ByteArray) ++ z]) := Lib.hid (by rw [HK.out, List.map_append, List.map_singleton, ← pair_sum (y, z)])
      obtain ⟨L, hL⟩ : ∃ L, (r.take k).map pairB = L := ⟨_, rfl⟩
      rw [hL] at hown HN hkl
      have X1 := cells_new wr #[.string y, .string z] 55
      have HA := Lib.hid ((hown.out.kept ((Below.refl wr.heap.size wr).alloc (Nat.le_refl _) (.cells #[.string y, .string z] 55))).kept ((Below.refl _ _).alloc (Nat.le_refl _) (.cells #[.string (y ++ ({ data := #[61] } : ByteArray) ++ z)] 9)))
      have HC : Hid (((wr.alloc (.cells #[.string y, .string z] 55)).alloc (.cells #[.string (y ++ ({ data := #[61] } : ByteArray) ++ z)] 9)).cell? ⟨wr.heap.size + 1, 0, none⟩ = some (.string (y ++ ({ data := #[61] } : ByteArray) ++ z))) := Lib.hid (by
        simp)
      have B2 := Lib.hid ((hnx.alloc hnx.size (.cells #[.string y, .string z] 55)).alloc (by have := hnx.size; simp; omega) (.cells #[.string (y ++ ({ data := #[61] } : ByteArray) ++ z)] 9))
      have HLT := Lib.hid (fun j hj => (World.ownsRow.lt hown.out j hj).1)
      have e0 := X1.now.at 0
      have e1 := X1.now.at 1
      have hs1 : y.size + 1 ≤ 9223372036854775807 := by omega
      have hs2 : (y ++ ({ data := #[61] } : ByteArray)).size + z.size ≤ 9223372036854775807 := by rw [ByteArray.size_append, show ({ data := #[61] } : ByteArray).size = 1 from rfl]; omega
      clear hts hcs ht m0 m1 hL hown hnx HK X1
      go_wp2_with (at_builtin; refine wpList_moreS rfl _ _ rfl rfl HA.out B2.out.size (wr.heap.size + 1) rfl HC.out (by omega) ?_)
      intro v3 w3 o3 hg3 _
      have B3 := B2.out.grown hg3 B2.out.size (fun j hj => HLT.out j hj)
      have O3 : Hid (OwnS w.heap.size w3 v3 ((r.take (k + 1)).map pairB)) := Lib.hid (by rw [HN.out]; exact o3)
      clear o3 hg3 HA HC B2 HLT HN e0 e1 c0 c1
      go_wp2_with fail
      go_roundw
      case rel => exact ⟨k + 1, _, by omega, by go_num, rfl, O3, B3⟩
      case measure => simp [intOf]; omega
    · obtain rfl : k = len := by omega
      have HR : Hid (OwnS w.heap.size wr u (r.map pairB)) := Lib.hid (by
        have := hown.out
        rwa [List.take_of_length_le (by rw [HT.out]; exact Nat.le_refl _)] at this)
      go_wp2_with fail
      go_ret
      exact ⟨_, rfl, HR.out, hnx⟩
theorem join_pairs (r : RowV) : (⟨(Lib.join ((r.map pairB).map (·.data.toList)) [32]).toArray⟩ : ByteArray) = bs (rowL r) := by
  unfold rowL bs
  congr 3
  rw [List.map_map]
  apply List.map_congr_left
  intro p _
  simp [pairB, bs]
/-- A row's pairs, joined. -/
theorem implJoinRow {B : Nat} {w : World} {v : Value} {r : RowV} (h : OwnS B w v (r.map pairB)) (hs : SmP r) (hl : r.length ≤ 12) :
    Calls Tryz.prog 68 #[v, .string ⟨#[32]⟩] w fun e w' => e = .returned (.string (bs (rowL r))) ∧ Below w.heap.size w w' := by
  obtain ⟨a, c, rfl, i⟩ := h.is
  have hm := rowL_most r.length r rfl hs
  have e : Lib.join ((r.map pairB).map (·.data.toList)) [32] = rowL r := by
    have := congrArg (fun x : ByteArray => x.data.toList) (join_pairs r)
    simpa [bs] using this
  by_cases h0 : (r.map pairB).length = 0
  · rw [h0]
    refine (Tryz.strings_Join_none a c ⟨#[32]⟩ w).mono fun e w' ⟨he, hw⟩ => ?_
    subst hw
    have : r = [] := List.length_eq_zero_iff.1 (by rwa [List.length_map] at h0)
    subst this
    exact ⟨by rw [he]; rfl, Below.refl _ _⟩
  · obtain ⟨b, off, rfl, hb, hc, hm2, _, hcs⟩ := i.cells (by omega)
    refine (Tryz.strings_Join b off c (r.map pairB) ⟨#[32]⟩ w hcs hb (by rw [List.length_map]; omega) hc ?_).mono fun e w' ⟨he, hw⟩ => ⟨by rw [he]; exact congrArg (fun x => Ending.returned (Value.string x)) (join_pairs r), hw⟩
    show (Lib.join ((r.map pairB).map (·.data.toList)) [32]).length ≤ _
    rw [e]; omega
set_option maxRecDepth 100000 in
set_option maxHeartbeats 1600000 in
theorem implRowsText (a : Option Addr) (n c : Nat) (rs : List RowV) (w : World) (h : IsRows w a n c rs) (hsm : SmR rs) (hn : n ≤ 1048576) :
    Calls Tryz.prog 25 #[.slice a n c] w fun e w' => e = .returned (.string (bs (rowsTx rs))) ∧ Below w.heap.size w w' := by
  have C' := implRowsOk a n c rs w h hsm
  obtain ⟨q, hq⟩ : ∃ q, rowsTx rs = q := ⟨_, rfl⟩
  rw [hq]
  unfold rowsTx at hq
  cases hg : rowsOkL rs
  · rw [hg] at C' hq
    have C := Lib.hid C'
    have HQ := Lib.hid hq
    clear C' h hsm hg hq
    go_enter Tryz.func25, Tryz.ntmps25
    go_wp2_with fail
    refine C.out.mono ?_
    rintro e w1 ⟨rfl, hb1⟩
    go_wp2_with fail
    go_ret
    exact ⟨by rw [← HQ.out]; rfl, hb1⟩
  · rw [hg] at C' hq
    have C := Lib.hid C'
    have HQ : Hid (rowsL rs = q) := Lib.hid hq
    have HL := Lib.hid (rowsL_take hg hsm)
    have H12 := Lib.hid (rowsOk_12 hg).2
    have HI := Lib.hid h
    have HM := Lib.hid hsm
    have HT := Lib.hid h.len
    clear C' h hsm hg hq
    go_enter Tryz.func25, Tryz.ntmps25
    go_wp2_with fail
    refine C.out.mono ?_
    rintro e w1 ⟨rfl, hb1⟩
    have hz1 := hb1.size
    have N0 := bldNew w1
    have B2 : Below w.heap.size w _ := hb1.alloc hz1 (.cells #[.pointer none, .slice none 0 0] 97)
    clear C hb1
    go_wp2_with fail
    go_loopw [11] (fun i wr => ∃ k : Nat, k ≤ n ∧ i = .int .i64 k ∧ Hid (Bld w1.heap.size w1.heap.size (rowsL (rs.take k)) wr) ∧ Below w.heap.size w wr) (fun i _ => n - (intOf i).toNat)
    case atStart => exact ⟨0, Nat.zero_le _, rfl, Lib.hid N0, B2⟩
    case round =>
      obtain ⟨k, hk, rfl, hbd, hnx⟩ := hrel
      have hbl := hbd.out.lt
      by_cases hlt : k < n
      · obtain ⟨b, off, rfl, hb, hl, hm, hts, hc⟩ := HI.out.cells (by omega)
        have ht : rs[k]? = some rs[k] := List.getElem?_eq_getElem (by omega)
        have HK : Hid (rs.take (k + 1) = rs.take k ++ [rs[k]]) := Lib.hid (List.take_succ_eq_append_getElem (by omega))
        have hsr := HM.out rs[k] (List.getElem_mem _)
        have h12 := H12.out rs[k] (List.getElem_mem _)
        obtain ⟨ra, rn, rc, c0, hz⟩ := hc k _ ht
        rw [← hnx.cell (p := ⟨b, _, none⟩) hb] at c0
        generalize rs[k] = r at ht c0 HK hsr h12 hz
        have HN : Hid (rowsL (rs.take (k + 1)) = rowsL (rs.take k) ++ rowL r ++ [10]) := Lib.hid (by rw [HK.out, rowsL_snoc, List.append_assoc])
        obtain ⟨l, hll⟩ : ∃ l, rowsL (rs.take k) = l := ⟨_, rfl⟩
        have hln := HL.out k
        rw [hll] at hbd HN hln
        have hrl := hz.len
        have hrm := rowL_most r.length r rfl hsr
        have PT := Lib.hid (implPairTexts ra rn rc r wr (hz.next hnx) hsr (by omega))
        have HSR := Lib.hid hsr
        obtain ⟨x, hx⟩ : ∃ x, bs (rowL r) = x := ⟨_, rfl⟩
        have hxs : x.size ≤ 25165920 := by rw [← hx, bs_size]; omega
        have HX : Hid (rowL r = x.data.toList) := Lib.hid (by rw [← hx, bs_toList])
        have HX2 := Lib.hid hx
        have hk6 : (0 : Int) ≤ (k : Int) := by omega
        have hk7 : (k : Int) < (n : Int) := by omega
        have P0 := hbd.out
        clear HK ht hts hc hm hll hx hz hsr hbd B2 N0
        go_wp2_with fail
        refine PT.out.mono ?_
        rintro e w2 ⟨pv, rfl, po, hb2⟩
        have P1 := bldKeep P0 (grown_of_below hb2)
        have B2 := hnx.trans (hb2.mono hnx.size)
        have JR := Lib.hid (implJoinRow po HSR.out h12)
        rw [HX2.out] at JR
        clear P0 hb2 hnx c0 po PT
        go_wp2_with fail
        refine JR.out.mono ?_
        rintro e w3 ⟨rfl, hb3⟩
        have P2 := bldKeep P1 (grown_of_below hb3)
        have B3 := B2.trans (hb3.mono B2.size)
        clear P1 hb3 B2 JR
        have z3 := P2.lt
        go_wp2_with fail
        refine (bldText w1.heap.size w1.heap.size l x _ P2 (by omega) (by omega)).mono ?_
        rintro e w4 ⟨⟨nn, rfl⟩, P3, hb4, hk4⟩
        have B4 := B3.trans (hb4.mono hz1)
        have z4 := P3.lt
        have hl4 : (l ++ x.data.toList).length ≤ 9000000000 := by rw [List.length_append]; have : x.data.toList.length = x.size := rfl; omega
        clear P2 hb4 hk4 B3 z3
        go_wp2_with fail
        refine (bldByte w1.heap.size w1.heap.size (l ++ x.data.toList) 10 _ P3 (by omega) (by omega)).mono ?_
        rintro e w5 ⟨rfl, P4, hb5⟩
        have B5 := B4.trans (hb5.mono hz1)
        clear P3 hb5 B4 z4
        go_wp2_with fail
        go_roundw
        case rel => exact ⟨k + 1, by omega, by go_num, Lib.hid (by rw [HN.out, HX.out]; exact P4), B5⟩
        case measure => simp [intOf]; omega
      · have HF : Hid (rowsL (rs.take k) = q) := Lib.hid (by rw [List.take_of_length_le (by rw [HT.out]; omega)]; exact HQ.out)
        have P0 := hbd.out
        rw [HF.out] at P0
        clear hbd B2 N0 HF
        go_wp2_with fail
        refine (bldString _ _ q _ P0 (by omega)).mono ?_
        rintro e w4 ⟨rfl, hb4⟩
        have B4 := hnx.trans (hb4.mono hz1)
        go_wp2_with fail
        go_ret
        exact ⟨rfl, B4⟩
end Go.Proofs.YtiajdnhmjdfeeaaGreat
