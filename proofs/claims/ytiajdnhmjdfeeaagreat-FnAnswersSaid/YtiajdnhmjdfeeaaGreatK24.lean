/- The program's With, Without and Union.; The specification's look for a triple, and triples without one.; What a drawn graph is: a slice of the call's own, of a bounded length, of texts of a bounded length. -/
import Derived.Test.YtiajdnhmjdfeeaaGreatK23
import Derived.Test.YtiajdnhmjdfeeaaGreatK08
import Derived.Test.YtiajdnhmjdfeeaaGreatK01
import Derived.Laws.AppendOwnNone
import Derived.Deep.RegionHeld3
import Derived.Test.YtiajdnhmjdfeeaaGreatK14
import Derived.Test.YtiajdnhmjdfeeaaGreatK09
import Derived.Test.YtiajdnhmjdfeeaaGreatK10
import Derived.Deep.RegionWith
namespace Go.Proofs.YtiajdnhmjdfeeaaGreat
open Go.RowKit Go.WideShapes Go.Maps
/-- A graph and true, or none and false. -/
def ResPost (r : Option (List Tri3)) (w : World) (e : Ending) (w' : World) : Prop :=
  ∃ v, e = .returned (.tuple #[v, .bool r.isSome]) ∧ OwnT w.heap.size w' v (r.getD []) ∧ Below w.heap.size w w'
theorem ResPost.no {w w' : World} (hb : Below w.heap.size w w') : ResPost none w (.returned (.tuple #[.slice none 0 0, .bool false])) w' := ⟨_, rfl, World.ownsRow_nil .., hb⟩
theorem ResPost.yes {w w' : World} {v : Value} {ts : List Tri3} (h : OwnT w.heap.size w' v ts) (hb : Below w.heap.size w w') : ResPost (some ts) w (.returned (.tuple #[v, .bool true])) w' := ⟨_, rfl, h, hb⟩
theorem ResPost.far {r : Option (List Tri3)} {w w0 w' : World} {e : Ending} (h : ResPost r w0 e w') (hb : Below w.heap.size w w0) : ResPost r w e w' := by
  obtain ⟨v, he, ho, hb'⟩ := h
  exact ⟨v, he, own_base ho hb.size, hb.trans (hb'.mono hb.size)⟩
def ofSet (ts : List Tri3) : Option (List Tri3) := if ts.length ≤ 80 then some (sortT ts) else none
open Go.RowKit Go.WideShapes
/-- The place of a slice is a block's own. -/
def Plain (a : Option Addr) : Prop := a = none ∨ ∃ b off, a = some ⟨b, off, none⟩
open Go.RowKit Go.WideShapes
theorem atT_front {t : Tri3} {ts : List Tri3} {k : Nat} (h1 : ∀ i u, i < k → ts[i]? = some u → aheadT u t = true) (hk : k ≤ ts.length) (h2 : ∀ u, ts[k]? = some u → aheadT u t = false) : atT t ts = k := atT_is h1 hk h2
theorem put_same {ts : List Tri3} {t : Tri3} {k : Nat} (h : atT t ts = k) (hk : ts[k]? = some t) : putT ts t = ts.take k ++ ts.drop k := by rw [putT_here (by rw [h]; exact hk), List.take_append_drop]
theorem put_more {ts : List Tri3} {t : Tri3} {k : Nat} (h : atT t ts = k) (hk : ts[k]? ≠ some t) : putT ts t = (ts.take k ++ [t]) ++ ts.drop k := by rw [putT_new (by rw [h]; exact hk), h]; simp
set_option maxRecDepth 100000 in
set_option maxHeartbeats 1600000 in
theorem specPut (b off len cap : Nat) (ts : List Tri3) (s p o : ByteArray) (w : World) (h : IsTris w (some ⟨b, off, none⟩) len cap ts) (hl : len ≤ 1048576) :
    Calls Tryz.prog 133 #[.slice (some ⟨b, off, none⟩) len cap, .agg #[.string s, .string p, .string o]] w fun e w' => ∃ v, e = .returned v ∧ OwnT w.heap.size w' v (putT ts (s, p, o)) ∧ Below w.heap.size w w' := by
  have hts := h.len
  have hcap : len ≤ cap ∧ cap ≤ maxLen := by
    rcases h with ⟨h, _⟩ | ⟨x, _, h1, h2, _⟩
    · cases h
    · exact ⟨h1, h2⟩
  unfold maxLen at hcap
  obtain ⟨hc1, hc2⟩ := hcap
  obtain ⟨i0, hi, hz0, hz1, hz2⟩ := info_parts infoTri
  have H := Lib.hid h
  have HT := Lib.hid hts
  have B0 := (Below.refl w.heap.size w).alloc (Nat.le_refl _) (.cells #[.string s, .string p, .string o] 65)
  have X0 := Box.new w (.string s) (.string p) (.string o) 65
  clear h hts
  go_enter Tryz.func133, Tryz.ntmps133
  go_wp2_with fail
  go_loopw [5] (fun i wr => ∃ k : Nat, k ≤ len ∧ i = .int .i64 k ∧ Hid (∀ i u, i < k → ts[i]? = some u → aheadT u (s, p, o) = true) ∧ Hid (Box wr w.heap.size (.string s) (.string p) (.string o) 65) ∧ Below w.heap.size w wr) (fun i _ => len - (intOf i).toNat)
  case atStart => exact ⟨0, Nat.zero_le _, rfl, Lib.hid (fun i u hi => by omega), Lib.hid X0, B0⟩
  case round =>
    obtain ⟨k, hk, rfl, hah, hbox, hnx⟩ := hrel
    clear X0 B0
    have hk6 : (0 : Int) ≤ (k : Int) := by omega
    obtain ⟨c0, c1, c2⟩ := hbox.out.cells
    have hk8 : k ≤ 1048576 := by omega
    by_cases hlt : k < len
    · have hk7 : (k : Int) < (len : Int) := by omega
      obtain ⟨b', off', hbo, hb, hl', hm, hts, hcs⟩ := H.out.cells (by omega)
      cases hbo
      have ht : ts[k]? = some (ts[k]'(by omega)) := List.getElem?_eq_getElem (by omega)
      obtain ⟨d0, d1, d2, m0, m1, m2⟩ := hcs k _ ht
      have DW := Lib.hid (And.intro d0 (And.intro d1 d2))
      rw [← hnx.cell (p := ⟨b, _, none⟩) hb] at d0 d1 d2
      generalize ts[k]'(by omega) = u at ht d0 d1 d2 m0 m1 m2 DW
      have A1 := specAhead u.1 u.2.1 u.2.2 s p o
      change ∀ w, Calls _ _ _ w fun e w' => e = .returned (.bool (aheadT u (s, p, o))) ∧ Below w.heap.size w w' at A1
      cases hq : aheadT u (s, p, o)
      · rw [hq] at A1
        have C1 := Lib.hid A1
        have HA : Hid (atT (s, p, o) ts = k) := Lib.hid (atT_front hah.out (by have := HT.out; omega) (fun v hv => by rw [ht] at hv; obtain rfl := Option.some.inj hv; exact hq))
        have l0 : b < wr.heap.size := Nat.lt_of_lt_of_le hb hnx.size
        have l1 : w.heap.size < wr.heap.size := hbox.out.lt
        have HTK := Lib.hid ht
        clear A1 hq ht hts hcs hm m0 m1 m2 hah hl'
        rcases Nat.eq_zero_or_pos k with rfl | hk0
        · simp only [Nat.zero_mul, Nat.add_zero] at d0 d1 d2 DW
          go_wp2_with fail
          go_region_held3 (fun w' => w'.cell? ⟨w.heap.size, 0, none⟩ = some (.string s) ∧ w'.cell? ⟨w.heap.size, 1, none⟩ = some (.string p) ∧ w'.cell? ⟨w.heap.size, 2, none⟩ = some (.string o) ∧ w'.cell? ⟨b, off, none⟩ = some (.string u.1) ∧ w'.cell? ⟨b, off + 1, none⟩ = some (.string u.2.1) ∧ w'.cell? ⟨b, off + 2, none⟩ = some (.string u.2.2))
            (first | go_keep | (go_split_ands; refine ⟨?_, ?_, ?_, ?_, ?_, ?_⟩ <;> (rw [ha4.cell (by first | (simp; done) | exact World.block_lt_of_cell? _ _ (by assumption))]; assumption)))
            (first
              | (go_at_call 97; refine (C1.out _).mono ?_; rintro e wa ⟨rfl, ha4⟩))
          have BE : Below w.heap.size w wa := hnx.drew.trans (ha4.mono hnx.size)
          have XE : Box wa w.heap.size (.string s) (.string p) (.string o) 65 := hbox.out.drew.next ha4
          clear ha4 hnx hbox c0 c1 c2 C1 d0 d1 d2
          generalize wa = we at BE XE ⊢
          have hcl : w.heap.size < we.heap.size := XE.lt
          have O0 : OwnT we.heap.size (we.alloc (.cells #[] 65)) (.slice (some ⟨we.heap.size, 0, none⟩) 0 0) [] := World.ownsRow_lit (size := 3) (e := 65) we #[] 0 (Nat.le_refl _) (by decide) rfl
          have BA := BE.alloc BE.size (.cells #[] 65)
          have XA := XE.alloc (.cells #[] 65)
          have F1 := (H.out.grown (w' := we.alloc (.cells #[] 65)) ⟨BA.os, BA.tape, BA.output, BA.size, fun j hj _ => BA.block j hj⟩).front 0
          have HF1 := Lib.hid F1
          have HO := Lib.hid O0
          have hlk : (ts.take 0).length = 0 := by rw [List.length_take, HT.out]; omega
          obtain ⟨tk, htk⟩ : ∃ l, ts.take 0 = l := ⟨_, rfl⟩
          rw [htk] at hlk HF1
          have HTKE := Lib.hid htk
          clear htk
          have HLK := Lib.hid hlk
          clear O0 F1 hlk BE XE
          go_wp2_with (at_builtin; refine wpList_append_own _ rfl _ _ 31 rfl we.heap.size 65 i0 (.agg #[.string ⟨#[]⟩, .string ⟨#[]⟩, .string ⟨#[]⟩]) 3 48 Tryz.underlying31 hi hz0 hz1 hz2 rfl (by decide) _ _ _ rfl HO.out ⟨b, off, none⟩ 0 _ (flat tk) rfl (by rw [flat_len, HLK.out]) HF1.out (by first | exact flat_one _ | (intro x hx; simp at hx; rcases hx with rfl | rfl | rfl <;> rfl)) ?h63a ?h48a ?hbsa ?_)
          case h63a => rw [List.length_nil]; unfold maxLen; omega
          case h48a => rw [List.length_nil]; omega
          case hbsa => first | omega | (simp only [World.size_alloc]; omega)
          intro v1 w1 hown1 hg1 _
          have O1 : OwnT we.heap.size w1 v1 tk := by unfold OwnT; rw [HLK.out]; simpa [flat] using hown1
          have B1 : Below w.heap.size w w1 := BA.grown hg1 BA.size (fun j hj => by simp [Value.ownBlock] at hj; omega)
          have X1 := XA.grown hg1 (by simp [Value.ownBlock]; omega)
          have hs1 : we.heap.size + 1 ≤ w1.heap.size := by have := hg1.size; rw [World.size_alloc] at this; omega
          have HO1 := Lib.hid O1
          have hne1 := fun j hj => (World.ownsRow.lt O1 j hj).1
          obtain ⟨e0, e1, e2⟩ := X1.cells
          clear hown1 hg1 HO HF1 BA XA O1
          obtain ⟨f0, f1, f2⟩ := DW.out
          rw [← B1.cell (p := ⟨b, off, none⟩) hb] at f0
          rw [← B1.cell (p := ⟨b, off + 1, none⟩) hb] at f1
          rw [← B1.cell (p := ⟨b, off + 2, none⟩) hb] at f2
          clear DW
          by_cases he : u = (s, p, o)
          · subst he
            have HR : Hid (putT ts (s, p, o) = ts.take 0 ++ ts.drop 0) := Lib.hid (put_same HA.out HTK.out)
            have EQ := tri_is s p o
            simp only at f0 f1 f2
            clear HA HTK
            go_wp2_with fail
            go_quiet (fail)
            clear EQ f0 f1 f2
            have Bd : Below w.heap.size w (w1.drewN nq) := below_drewN B1 nq
            have Od : OwnT we.heap.size (w1.drewN nq) v1 tk := HO1.out
            have Xd : Box (w1.drewN nq) w.heap.size (.string s) (.string p) (.string o) 65 := X1
            have hsd : we.heap.size + 1 ≤ (w1.drewN nq).heap.size := hs1
            clear e0 e1 e2 B1 X1 HO1 hs1
            generalize w1.drewN nq = wd at Bd Od Xd hsd ⊢
            have HO1 := Lib.hid Od
            obtain ⟨e0, e1, e2⟩ := Xd.cells
            clear Od
            have HOX := HO1.out
            have F2 := (H.out.grown (w' := wd) ⟨Bd.os, Bd.tape, Bd.output, Bd.size, fun j hj _ => Bd.block j hj⟩).back 0 (by rw [HT.out]; omega)
            rw [Nat.zero_mul, Nat.add_zero] at F2
            have hld : (ts.drop 0).length = len := by rw [List.length_drop, HT.out, Nat.sub_zero]
            obtain ⟨td, htd⟩ : ∃ l, ts.drop 0 = l := ⟨_, rfl⟩
            rw [htd] at hld F2 HR
            have HF2 := Lib.hid F2
            have HLD := Lib.hid hld
            have hlp : (tk).length = 0 := by first | exact HLK.out | (rw [List.length_append, HLK.out]; rfl)
            obtain ⟨pf, hpf⟩ : ∃ l, tk = l := ⟨_, rfl⟩
            rw [HTKE.out, hpf] at HR
            rw [hpf] at hlp HOX
            have HLP := Lib.hid hlp
            have HOY := Lib.hid HOX
            clear F2 hld hlp htd hpf HOX
            go_wp2_with (at_builtin; refine wpList_append_own _ rfl _ _ 31 rfl we.heap.size 65 i0 (.agg #[.string ⟨#[]⟩, .string ⟨#[]⟩, .string ⟨#[]⟩]) 3 48 Tryz.underlying31 hi hz0 hz1 hz2 rfl (by decide) _ _ _ rfl HOY.out ⟨b, off, none⟩ len _ (flat td) rfl (by rw [flat_len, HLD.out]) HF2.out (by first | exact flat_one _ | (intro x hx; simp at hx; rcases hx with rfl | rfl | rfl <;> rfl)) ?h63c ?h48c ?hbsc ?_)
            case h63c => rw [HLP.out]; unfold maxLen; omega
            case h48c => rw [HLP.out]; omega
            case hbsc => first | omega | (simp only [World.size_alloc]; omega)
            intro v3 w3 hown3 hg3 _
            have O3 : OwnT we.heap.size w3 v3 (pf ++ td) := by unfold OwnT; rw [List.length_append, HLD.out, flat_append]; exact hown3
            have B3 : Below w.heap.size w w3 := Bd.grown hg3 Bd.size (fun j hj => by have := hne1 j hj; omega)
            have O4 := own_base O3 (Nat.le_of_lt hcl)
            have HO4 := Lib.hid O4
            clear hown3 hg3 O3 O4 HF2
            go_wp2_with fail
            go_ret
            exact ⟨v3, rfl, by rw [HR.out]; exact HO4.out, B3⟩
          · have HR : Hid (putT ts (s, p, o) = (ts.take 0 ++ [(s, p, o)]) ++ ts.drop 0) := Lib.hid (put_more HA.out (by rw [HTK.out]; exact fun h => he (Option.some.inj h)))
            have EQ := tri_isnt he
            simp only at EQ
            clear HA HTK he
            go_wp2_with fail
            go_quiet (fail)
            clear EQ f0 f1 f2
            have Bd : Below w.heap.size w (w1.drewN nq) := below_drewN B1 nq
            have Od : OwnT we.heap.size (w1.drewN nq) v1 tk := HO1.out
            have Xd : Box (w1.drewN nq) w.heap.size (.string s) (.string p) (.string o) 65 := X1
            have hsd : we.heap.size + 1 ≤ (w1.drewN nq).heap.size := hs1
            clear e0 e1 e2 B1 X1 HO1 hs1
            generalize w1.drewN nq = wd at Bd Od Xd hsd ⊢
            have HO1 := Lib.hid Od
            obtain ⟨e0, e1, e2⟩ := Xd.cells
            clear Od
            have HC : ∀ (j : Nat) (x : Value), [Value.string s, .string p, .string o][j]? = some x → (wd.alloc (.cells #[.string s, .string p, .string o] 65)).cell? ((⟨wd.heap.size, 0, none⟩ : Addr).add j) = some x := three_cell
            have HH := Lib.hid HC
            have B1a := Bd.alloc Bd.size (.cells #[.string s, .string p, .string o] 65)
            have O1a := Lib.hid (World.ownsRow.alloc HO1.out (.cells #[.string s, .string p, .string o] 65))
            clear HC
            go_wp2_with (at_builtin; refine wpList_append_own _ rfl _ _ 31 rfl we.heap.size 65 i0 (.agg #[.string ⟨#[]⟩, .string ⟨#[]⟩, .string ⟨#[]⟩]) 3 48 Tryz.underlying31 hi hz0 hz1 hz2 rfl (by decide) _ _ _ rfl O1a.out ⟨wd.heap.size, 0, none⟩ 1 _ [.string s, .string p, .string o] rfl rfl HH.out (by first | exact flat_one _ | (intro x hx; simp at hx; rcases hx with rfl | rfl | rfl <;> rfl)) ?h63b ?h48b ?hbsb ?_)
            case h63b => rw [HLK.out]; unfold maxLen; omega
            case h48b => rw [HLK.out]; omega
            case hbsb => first | omega | (simp only [World.size_alloc]; omega)
            intro v2 w2 hown2 hg2 _
            have O2 : OwnT we.heap.size w2 v2 (tk ++ [(s, p, o)]) := own3_snoc (t := (s, p, o)) hown2
            have B2 : Below w.heap.size w w2 := B1a.grown hg2 B1a.size (fun j hj => by have := hne1 j hj; omega)
            have hs2 : we.heap.size + 1 ≤ w2.heap.size := by have := hg2.size; rw [World.size_alloc] at this; omega
            have HO2 := Lib.hid O2
            have hne2 := fun j hj => (World.ownsRow.lt O2 j hj).1
            clear hown2 hg2 O1a HH B1a O2 HO1 Xd Bd
            have HOX := HO2.out
            have F2 := (H.out.grown (w' := w2) ⟨B2.os, B2.tape, B2.output, B2.size, fun j hj _ => B2.block j hj⟩).back 0 (by rw [HT.out]; omega)
            rw [Nat.zero_mul, Nat.add_zero] at F2
            have hld : (ts.drop 0).length = len := by rw [List.length_drop, HT.out, Nat.sub_zero]
            obtain ⟨td, htd⟩ : ∃ l, ts.drop 0 = l := ⟨_, rfl⟩
            rw [htd] at hld F2 HR
            have HF2 := Lib.hid F2
            have HLD := Lib.hid hld
            have hlp : (tk ++ [(s, p, o)]).length = 0 + 1 := by first | exact HLK.out | (rw [List.length_append, HLK.out]; rfl)
            obtain ⟨pf, hpf⟩ : ∃ l, tk ++ [(s, p, o)] = l := ⟨_, rfl⟩
            rw [HTKE.out, hpf] at HR
            rw [hpf] at hlp HOX
            have HLP := Lib.hid hlp
            have HOY := Lib.hid HOX
            clear F2 hld hlp htd hpf HOX
            go_wp2_with (at_builtin; refine wpList_append_own _ rfl _ _ 31 rfl we.heap.size 65 i0 (.agg #[.string ⟨#[]⟩, .string ⟨#[]⟩, .string ⟨#[]⟩]) 3 48 Tryz.underlying31 hi hz0 hz1 hz2 rfl (by decide) _ _ _ rfl HOY.out ⟨b, off, none⟩ len _ (flat td) rfl (by rw [flat_len, HLD.out]) HF2.out (by first | exact flat_one _ | (intro x hx; simp at hx; rcases hx with rfl | rfl | rfl <;> rfl)) ?h63c ?h48c ?hbsc ?_)
            case h63c => rw [HLP.out]; unfold maxLen; omega
            case h48c => rw [HLP.out]; omega
            case hbsc => first | omega | (simp only [World.size_alloc]; omega)
            intro v3 w3 hown3 hg3 _
            have O3 : OwnT we.heap.size w3 v3 (pf ++ td) := by unfold OwnT; rw [List.length_append, HLD.out, flat_append]; exact hown3
            have B3 : Below w.heap.size w w3 := B2.grown hg3 B2.size (fun j hj => by have := hne2 j hj; omega)
            have O4 := own_base O3 (Nat.le_of_lt hcl)
            have HO4 := Lib.hid O4
            clear hown3 hg3 O3 O4 HF2
            go_wp2_with fail
            go_ret
            exact ⟨v3, rfl, by rw [HR.out]; exact HO4.out, B3⟩
        · have hkc : ¬ k = 0 := by omega
          go_wp2_with fail
          go_region_held3 (fun w' => w'.cell? ⟨w.heap.size, 0, none⟩ = some (.string s) ∧ w'.cell? ⟨w.heap.size, 1, none⟩ = some (.string p) ∧ w'.cell? ⟨w.heap.size, 2, none⟩ = some (.string o) ∧ w'.cell? ⟨b, off + k * 3, none⟩ = some (.string u.1) ∧ w'.cell? ⟨b, off + k * 3 + 1, none⟩ = some (.string u.2.1) ∧ w'.cell? ⟨b, off + k * 3 + 2, none⟩ = some (.string u.2.2))
            (first | go_keep | (go_split_ands; refine ⟨?_, ?_, ?_, ?_, ?_, ?_⟩ <;> (rw [ha4.cell (by first | (simp; done) | exact World.block_lt_of_cell? _ _ (by assumption))]; assumption)))
            (first
              | (go_at_call 97; refine (C1.out _).mono ?_; rintro e wa ⟨rfl, ha4⟩))
          have BE : Below w.heap.size w wa := hnx.drew.trans (ha4.mono hnx.size)
          have XE : Box wa w.heap.size (.string s) (.string p) (.string o) 65 := hbox.out.drew.next ha4
          clear ha4 hnx hbox c0 c1 c2 C1 d0 d1 d2
          generalize wa = we at BE XE ⊢
          have hcl : w.heap.size < we.heap.size := XE.lt
          have O0 : OwnT we.heap.size (we.alloc (.cells #[] 65)) (.slice (some ⟨we.heap.size, 0, none⟩) 0 0) [] := World.ownsRow_lit (size := 3) (e := 65) we #[] 0 (Nat.le_refl _) (by decide) rfl
          have BA := BE.alloc BE.size (.cells #[] 65)
          have XA := XE.alloc (.cells #[] 65)
          have F1 := (H.out.grown (w' := we.alloc (.cells #[] 65)) ⟨BA.os, BA.tape, BA.output, BA.size, fun j hj _ => BA.block j hj⟩).front k
          have HF1 := Lib.hid F1
          have HO := Lib.hid O0
          have hlk : (ts.take k).length = k := by rw [List.length_take, HT.out]; omega
          obtain ⟨tk, htk⟩ : ∃ l, ts.take k = l := ⟨_, rfl⟩
          rw [htk] at hlk HF1
          have HTKE := Lib.hid htk
          clear htk
          have HLK := Lib.hid hlk
          clear O0 F1 hlk BE XE
          go_wp2_with (at_builtin; refine wpList_append_own _ rfl _ _ 31 rfl we.heap.size 65 i0 (.agg #[.string ⟨#[]⟩, .string ⟨#[]⟩, .string ⟨#[]⟩]) 3 48 Tryz.underlying31 hi hz0 hz1 hz2 rfl (by decide) _ _ _ rfl HO.out ⟨b, off, none⟩ k _ (flat tk) rfl (by rw [flat_len, HLK.out]) HF1.out (by first | exact flat_one _ | (intro x hx; simp at hx; rcases hx with rfl | rfl | rfl <;> rfl)) ?h63a ?h48a ?hbsa ?_)
          case h63a => rw [List.length_nil]; unfold maxLen; omega
          case h48a => rw [List.length_nil]; omega
          case hbsa => first | omega | (simp only [World.size_alloc]; omega)
          intro v1 w1 hown1 hg1 _
          have O1 : OwnT we.heap.size w1 v1 tk := by unfold OwnT; rw [HLK.out]; simpa [flat] using hown1
          have B1 : Below w.heap.size w w1 := BA.grown hg1 BA.size (fun j hj => by simp [Value.ownBlock] at hj; omega)
          have X1 := XA.grown hg1 (by simp [Value.ownBlock]; omega)
          have hs1 : we.heap.size + 1 ≤ w1.heap.size := by have := hg1.size; rw [World.size_alloc] at this; omega
          have HO1 := Lib.hid O1
          have hne1 := fun j hj => (World.ownsRow.lt O1 j hj).1
          obtain ⟨e0, e1, e2⟩ := X1.cells
          clear hown1 hg1 HO HF1 BA XA O1
          obtain ⟨f0, f1, f2⟩ := DW.out
          rw [← B1.cell (p := ⟨b, off + k * 3, none⟩) hb] at f0
          rw [← B1.cell (p := ⟨b, off + k * 3 + 1, none⟩) hb] at f1
          rw [← B1.cell (p := ⟨b, off + k * 3 + 2, none⟩) hb] at f2
          clear DW
          by_cases he : u = (s, p, o)
          · subst he
            have HR : Hid (putT ts (s, p, o) = ts.take k ++ ts.drop k) := Lib.hid (put_same HA.out HTK.out)
            have EQ := tri_is s p o
            simp only at f0 f1 f2
            clear HA HTK
            go_wp2_with fail
            go_quiet (fail)
            clear EQ f0 f1 f2
            have Bd : Below w.heap.size w (w1.drewN nq) := below_drewN B1 nq
            have Od : OwnT we.heap.size (w1.drewN nq) v1 tk := HO1.out
            have Xd : Box (w1.drewN nq) w.heap.size (.string s) (.string p) (.string o) 65 := X1
            have hsd : we.heap.size + 1 ≤ (w1.drewN nq).heap.size := hs1
            clear e0 e1 e2 B1 X1 HO1 hs1
            generalize w1.drewN nq = wd at Bd Od Xd hsd ⊢
            have HO1 := Lib.hid Od
            obtain ⟨e0, e1, e2⟩ := Xd.cells
            clear Od
            have HOX := HO1.out
            have F2 := (H.out.grown (w' := wd) ⟨Bd.os, Bd.tape, Bd.output, Bd.size, fun j hj _ => Bd.block j hj⟩).back k (by rw [HT.out]; omega)
            have hld : (ts.drop k).length = (len - k) := by rw [List.length_drop, HT.out]
            obtain ⟨td, htd⟩ : ∃ l, ts.drop k = l := ⟨_, rfl⟩
            rw [htd] at hld F2 HR
            have HF2 := Lib.hid F2
            have HLD := Lib.hid hld
            have hlp : (tk).length = k := by first | exact HLK.out | (rw [List.length_append, HLK.out]; rfl)
            obtain ⟨pf, hpf⟩ : ∃ l, tk = l := ⟨_, rfl⟩
            rw [HTKE.out, hpf] at HR
            rw [hpf] at hlp HOX
            have HLP := Lib.hid hlp
            have HOY := Lib.hid HOX
            clear F2 hld hlp htd hpf HOX
            go_wp2_with (at_builtin; refine wpList_append_own _ rfl _ _ 31 rfl we.heap.size 65 i0 (.agg #[.string ⟨#[]⟩, .string ⟨#[]⟩, .string ⟨#[]⟩]) 3 48 Tryz.underlying31 hi hz0 hz1 hz2 rfl (by decide) _ _ _ rfl HOY.out ⟨b, off + k * 3, none⟩ (len - k) _ (flat td) rfl (by rw [flat_len, HLD.out]) HF2.out (by first | exact flat_one _ | (intro x hx; simp at hx; rcases hx with rfl | rfl | rfl <;> rfl)) ?h63c ?h48c ?hbsc ?_)
            case h63c => rw [HLP.out]; unfold maxLen; omega
            case h48c => rw [HLP.out]; omega
            case hbsc => first | omega | (simp only [World.size_alloc]; omega)
            intro v3 w3 hown3 hg3 _
            have O3 : OwnT we.heap.size w3 v3 (pf ++ td) := by unfold OwnT; rw [List.length_append, HLD.out, flat_append]; exact hown3
            have B3 : Below w.heap.size w w3 := Bd.grown hg3 Bd.size (fun j hj => by have := hne1 j hj; omega)
            have O4 := own_base O3 (Nat.le_of_lt hcl)
            have HO4 := Lib.hid O4
            clear hown3 hg3 O3 O4 HF2
            go_wp2_with fail
            go_ret
            exact ⟨v3, rfl, by rw [HR.out]; exact HO4.out, B3⟩
          · have HR : Hid (putT ts (s, p, o) = (ts.take k ++ [(s, p, o)]) ++ ts.drop k) := Lib.hid (put_more HA.out (by rw [HTK.out]; exact fun h => he (Option.some.inj h)))
            have EQ := tri_isnt he
            simp only at EQ
            clear HA HTK he
            go_wp2_with fail
            go_quiet (fail)
            clear EQ f0 f1 f2
            have Bd : Below w.heap.size w (w1.drewN nq) := below_drewN B1 nq
            have Od : OwnT we.heap.size (w1.drewN nq) v1 tk := HO1.out
            have Xd : Box (w1.drewN nq) w.heap.size (.string s) (.string p) (.string o) 65 := X1
            have hsd : we.heap.size + 1 ≤ (w1.drewN nq).heap.size := hs1
            clear e0 e1 e2 B1 X1 HO1 hs1
            generalize w1.drewN nq = wd at Bd Od Xd hsd ⊢
            have HO1 := Lib.hid Od
            obtain ⟨e0, e1, e2⟩ := Xd.cells
            clear Od
            have HC : ∀ (j : Nat) (x : Value), [Value.string s, .string p, .string o][j]? = some x → (wd.alloc (.cells #[.string s, .string p, .string o] 65)).cell? ((⟨wd.heap.size, 0, none⟩ : Addr).add j) = some x := three_cell
            have HH := Lib.hid HC
            have B1a := Bd.alloc Bd.size (.cells #[.string s, .string p, .string o] 65)
            have O1a := Lib.hid (World.ownsRow.alloc HO1.out (.cells #[.string s, .string p, .string o] 65))
            clear HC
            go_wp2_with (at_builtin; refine wpList_append_own _ rfl _ _ 31 rfl we.heap.size 65 i0 (.agg #[.string ⟨#[]⟩, .string ⟨#[]⟩, .string ⟨#[]⟩]) 3 48 Tryz.underlying31 hi hz0 hz1 hz2 rfl (by decide) _ _ _ rfl O1a.out ⟨wd.heap.size, 0, none⟩ 1 _ [.string s, .string p, .string o] rfl rfl HH.out (by first | exact flat_one _ | (intro x hx; simp at hx; rcases hx with rfl | rfl | rfl <;> rfl)) ?h63b ?h48b ?hbsb ?_)
            case h63b => rw [HLK.out]; unfold maxLen; omega
            case h48b => rw [HLK.out]; omega
            case hbsb => first | omega | (simp only [World.size_alloc]; omega)
            intro v2 w2 hown2 hg2 _
            have O2 : OwnT we.heap.size w2 v2 (tk ++ [(s, p, o)]) := own3_snoc (t := (s, p, o)) hown2
            have B2 : Below w.heap.size w w2 := B1a.grown hg2 B1a.size (fun j hj => by have := hne1 j hj; omega)
            have hs2 : we.heap.size + 1 ≤ w2.heap.size := by have := hg2.size; rw [World.size_alloc] at this; omega
            have HO2 := Lib.hid O2
            have hne2 := fun j hj => (World.ownsRow.lt O2 j hj).1
            clear hown2 hg2 O1a HH B1a O2 HO1 Xd Bd
            have HOX := HO2.out
            have F2 := (H.out.grown (w' := w2) ⟨B2.os, B2.tape, B2.output, B2.size, fun j hj _ => B2.block j hj⟩).back k (by rw [HT.out]; omega)
            have hld : (ts.drop k).length = (len - k) := by rw [List.length_drop, HT.out]
            obtain ⟨td, htd⟩ : ∃ l, ts.drop k = l := ⟨_, rfl⟩
            rw [htd] at hld F2 HR
            have HF2 := Lib.hid F2
            have HLD := Lib.hid hld
            have hlp : (tk ++ [(s, p, o)]).length = k + 1 := by first | exact HLK.out | (rw [List.length_append, HLK.out]; rfl)
            obtain ⟨pf, hpf⟩ : ∃ l, tk ++ [(s, p, o)] = l := ⟨_, rfl⟩
            rw [HTKE.out, hpf] at HR
            rw [hpf] at hlp HOX
            have HLP := Lib.hid hlp
            have HOY := Lib.hid HOX
            clear F2 hld hlp htd hpf HOX
            go_wp2_with (at_builtin; refine wpList_append_own _ rfl _ _ 31 rfl we.heap.size 65 i0 (.agg #[.string ⟨#[]⟩, .string ⟨#[]⟩, .string ⟨#[]⟩]) 3 48 Tryz.underlying31 hi hz0 hz1 hz2 rfl (by decide) _ _ _ rfl HOY.out ⟨b, off + k * 3, none⟩ (len - k) _ (flat td) rfl (by rw [flat_len, HLD.out]) HF2.out (by first | exact flat_one _ | (intro x hx; simp at hx; rcases hx with rfl | rfl | rfl <;> rfl)) ?h63c ?h48c ?hbsc ?_)
            case h63c => rw [HLP.out]; unfold maxLen; omega
            case h48c => rw [HLP.out]; omega
            case hbsc => first | omega | (simp only [World.size_alloc]; omega)
            intro v3 w3 hown3 hg3 _
            have O3 : OwnT we.heap.size w3 v3 (pf ++ td) := by unfold OwnT; rw [List.length_append, HLD.out, flat_append]; exact hown3
            have B3 : Below w.heap.size w w3 := B2.grown hg3 B2.size (fun j hj => by have := hne2 j hj; omega)
            have O4 := own_base O3 (Nat.le_of_lt hcl)
            have HO4 := Lib.hid O4
            clear hown3 hg3 O3 O4 HF2
            go_wp2_with fail
            go_ret
            exact ⟨v3, rfl, by rw [HR.out]; exact HO4.out, B3⟩
      · rw [hq] at A1
        have HN : Hid (∀ i u, i < k + 1 → ts[i]? = some u → aheadT u (s, p, o) = true) := Lib.hid (fun i v hi hv => by
          rcases Nat.lt_or_ge i k with g | g
          · exact hah.out i v g hv
          · obtain rfl : i = k := by omega
            rw [ht] at hv; obtain rfl := Option.some.inj hv; exact hq)
        have C1 := Lib.hid A1
        have l0 : b < wr.heap.size := Nat.lt_of_lt_of_le hb hnx.size
        have l1 : w.heap.size < wr.heap.size := hbox.out.lt
        clear A1 hq ht hts hcs hm m0 m1 m2 hah hl'
        go_wp2_with fail
        go_region_held3 (fun w' => w'.cell? ⟨w.heap.size, 0, none⟩ = some (.string s) ∧ w'.cell? ⟨w.heap.size, 1, none⟩ = some (.string p) ∧ w'.cell? ⟨w.heap.size, 2, none⟩ = some (.string o) ∧ w'.cell? ⟨b, off + k * 3, none⟩ = some (.string u.1) ∧ w'.cell? ⟨b, off + k * 3 + 1, none⟩ = some (.string u.2.1) ∧ w'.cell? ⟨b, off + k * 3 + 2, none⟩ = some (.string u.2.2))
          (first | go_keep | (go_split_ands; refine ⟨?_, ?_, ?_, ?_, ?_, ?_⟩ <;> (rw [ha4.cell (by first | (simp; done) | exact World.block_lt_of_cell? _ _ (by assumption))]; assumption)))
          (first
            | (go_at_call 97; refine (C1.out _).mono ?_; rintro e wa ⟨rfl, ha4⟩))
        have B2 : Below w.heap.size w wa := hnx.drew.trans (ha4.mono hnx.size)
        have X2 : Box wa w.heap.size (.string s) (.string p) (.string o) 65 := hbox.out.drew.next ha4
        clear ha4 hnx hbox c0 c1 c2 C1
        go_wp2_with fail
        go_roundw
        case rel => exact ⟨k + 1, by omega, by go_num, HN, Lib.hid X2, B2⟩
        case measure => simp [intOf]; omega
    · obtain rfl : k = len := by omega
      have HA : Hid (atT (s, p, o) ts = k) := Lib.hid (atT_front hah.out (by have := HT.out; omega) (fun v hv => by have := (List.getElem?_eq_some_iff.1 hv).1; have := HT.out; omega))
      have HNK : Hid (ts[k]? = none) := Lib.hid (List.getElem?_eq_none (by rw [HT.out]; exact Nat.le_refl _))
      clear hah
      rcases Nat.eq_zero_or_pos k with rfl | hk0
      · have hk9 : ¬ ((0 : Nat) : Int) < ((0 : Nat) : Int) := by omega
        rcases Nat.lt_or_eq_of_le hc1 with hcc | rfl
        · have hcd : ¬ 0 = cap := by omega
          go_wp2_with fail
          go_quiet (fail)
          have BE : Below w.heap.size w (wr.drewN nq) := below_drewN hnx nq
          have XE : Box (wr.drewN nq) w.heap.size (.string s) (.string p) (.string o) 65 := hbox.out
          clear hnx hbox c0 c1 c2
          generalize wr.drewN nq = we at BE XE ⊢
          have hcl : w.heap.size < we.heap.size := XE.lt
          have O0 : OwnT we.heap.size (we.alloc (.cells #[] 65)) (.slice (some ⟨we.heap.size, 0, none⟩) 0 0) [] := World.ownsRow_lit (size := 3) (e := 65) we #[] 0 (Nat.le_refl _) (by decide) rfl
          have BA := BE.alloc BE.size (.cells #[] 65)
          have XA := XE.alloc (.cells #[] 65)
          have F1 := (H.out.grown (w' := we.alloc (.cells #[] 65)) ⟨BA.os, BA.tape, BA.output, BA.size, fun j hj _ => BA.block j hj⟩).front 0
          have HF1 := Lib.hid F1
          have HO := Lib.hid O0
          have hlk : (ts.take 0).length = 0 := by rw [List.length_take, HT.out]; omega
          obtain ⟨tk, htk⟩ : ∃ l, ts.take 0 = l := ⟨_, rfl⟩
          rw [htk] at hlk HF1
          have HTKE := Lib.hid htk
          clear htk
          have HLK := Lib.hid hlk
          clear O0 F1 hlk BE XE
          go_wp2_with (at_builtin; refine wpList_append_own _ rfl _ _ 31 rfl we.heap.size 65 i0 (.agg #[.string ⟨#[]⟩, .string ⟨#[]⟩, .string ⟨#[]⟩]) 3 48 Tryz.underlying31 hi hz0 hz1 hz2 rfl (by decide) _ _ _ rfl HO.out ⟨b, off, none⟩ 0 _ (flat tk) rfl (by rw [flat_len, HLK.out]) HF1.out (by first | exact flat_one _ | (intro x hx; simp at hx; rcases hx with rfl | rfl | rfl <;> rfl)) ?h63a ?h48a ?hbsa ?_)
          case h63a => rw [List.length_nil]; unfold maxLen; omega
          case h48a => rw [List.length_nil]; omega
          case hbsa => first | omega | (simp only [World.size_alloc]; omega)
          intro v1 w1 hown1 hg1 _
          have O1 : OwnT we.heap.size w1 v1 tk := by unfold OwnT; rw [HLK.out]; simpa [flat] using hown1
          have B1 : Below w.heap.size w w1 := BA.grown hg1 BA.size (fun j hj => by simp [Value.ownBlock] at hj; omega)
          have X1 := XA.grown hg1 (by simp [Value.ownBlock]; omega)
          have hs1 : we.heap.size + 1 ≤ w1.heap.size := by have := hg1.size; rw [World.size_alloc] at this; omega
          have HO1 := Lib.hid O1
          have hne1 := fun j hj => (World.ownsRow.lt O1 j hj).1
          obtain ⟨e0, e1, e2⟩ := X1.cells
          clear hown1 hg1 HO HF1 BA XA O1
          have HR : Hid (putT ts (s, p, o) = ts.take 0 ++ [(s, p, o)]) := Lib.hid (by
            rw [put_more HA.out (by rw [HNK.out]; simp), List.drop_eq_nil_of_le (by rw [HT.out]; exact Nat.le_refl _), List.append_nil])
          clear HA HNK
          go_wp2_with fail
          go_quiet (fail)
          have Bd : Below w.heap.size w (w1.drewN nq) := below_drewN B1 nq
          have Od : OwnT we.heap.size (w1.drewN nq) v1 tk := HO1.out
          have Xd : Box (w1.drewN nq) w.heap.size (.string s) (.string p) (.string o) 65 := X1
          have hsd : we.heap.size + 1 ≤ (w1.drewN nq).heap.size := hs1
          clear e0 e1 e2 B1 X1 HO1 hs1
          generalize w1.drewN nq = wd at Bd Od Xd hsd ⊢
          have HO1 := Lib.hid Od
          obtain ⟨e0, e1, e2⟩ := Xd.cells
          clear Od
          have HC : ∀ (j : Nat) (x : Value), [Value.string s, .string p, .string o][j]? = some x → (wd.alloc (.cells #[.string s, .string p, .string o] 65)).cell? ((⟨wd.heap.size, 0, none⟩ : Addr).add j) = some x := three_cell
          have HH := Lib.hid HC
          have B1a := Bd.alloc Bd.size (.cells #[.string s, .string p, .string o] 65)
          have O1a := Lib.hid (World.ownsRow.alloc HO1.out (.cells #[.string s, .string p, .string o] 65))
          clear HC
          go_wp2_with (at_builtin; refine wpList_append_own _ rfl _ _ 31 rfl we.heap.size 65 i0 (.agg #[.string ⟨#[]⟩, .string ⟨#[]⟩, .string ⟨#[]⟩]) 3 48 Tryz.underlying31 hi hz0 hz1 hz2 rfl (by decide) _ _ _ rfl O1a.out ⟨wd.heap.size, 0, none⟩ 1 _ [.string s, .string p, .string o] rfl rfl HH.out (by first | exact flat_one _ | (intro x hx; simp at hx; rcases hx with rfl | rfl | rfl <;> rfl)) ?h63b ?h48b ?hbsb ?_)
          case h63b => rw [HLK.out]; unfold maxLen; omega
          case h48b => rw [HLK.out]; omega
          case hbsb => first | omega | (simp only [World.size_alloc]; omega)
          intro v2 w2 hown2 hg2 _
          have O2 : OwnT we.heap.size w2 v2 (tk ++ [(s, p, o)]) := own3_snoc (t := (s, p, o)) hown2
          have B2 : Below w.heap.size w w2 := B1a.grown hg2 B1a.size (fun j hj => by have := hne1 j hj; omega)
          have hs2 : we.heap.size + 1 ≤ w2.heap.size := by have := hg2.size; rw [World.size_alloc] at this; omega
          have HO2 := Lib.hid O2
          have hne2 := fun j hj => (World.ownsRow.lt O2 j hj).1
          clear hown2 hg2 O1a HH B1a O2 HO1 Xd Bd
          have HOX := HO2.out
          have hlp : (tk ++ [(s, p, o)]).length = 0 + 1 := by rw [List.length_append, HLK.out]; rfl
          obtain ⟨pf, hpf⟩ : ∃ l, tk ++ [(s, p, o)] = l := ⟨_, rfl⟩
          rw [HTKE.out, hpf] at HR
          rw [hpf] at hlp HOX
          have HLP := Lib.hid hlp
          have HOY := Lib.hid HOX
          clear hlp hpf HOX
          go_wp2_with (at_builtin; refine wpList_append_own _ rfl _ _ 31 rfl we.heap.size 65 i0 (.agg #[.string ⟨#[]⟩, .string ⟨#[]⟩, .string ⟨#[]⟩]) 3 48 Tryz.underlying31 hi hz0 hz1 hz2 rfl (by decide) _ _ _ rfl HOY.out _ 0 _ [] rfl rfl (fun j x hx => by simp at hx) (fun x hx => by simp at hx) ?h63c ?h48c ?hbsc ?_)
          case h63c => rw [HLP.out]; unfold maxLen; omega
          case h48c => rw [HLP.out]; omega
          case hbsc => first | omega | (simp only [World.size_alloc]; omega)
          intro v3 w3 hown3 hg3 _
          have O3 : OwnT we.heap.size w3 v3 pf := by unfold OwnT; simpa using hown3
          have B3 : Below w.heap.size w w3 := B2.grown hg3 B2.size (fun j hj => by have := hne2 j hj; omega)
          have O4 := own_base O3 (Nat.le_of_lt hcl)
          have HO4 := Lib.hid O4
          clear hown3 hg3 O3 O4
          go_wp2_with fail
          go_ret
          exact ⟨v3, rfl, by rw [HR.out]; exact HO4.out, B3⟩
        · go_wp2_with fail
          go_quiet (fail)
          have BE : Below w.heap.size w (wr.drewN nq) := below_drewN hnx nq
          have XE : Box (wr.drewN nq) w.heap.size (.string s) (.string p) (.string o) 65 := hbox.out
          clear hnx hbox c0 c1 c2
          generalize wr.drewN nq = we at BE XE ⊢
          have hcl : w.heap.size < we.heap.size := XE.lt
          have O0 : OwnT we.heap.size (we.alloc (.cells #[] 65)) (.slice (some ⟨we.heap.size, 0, none⟩) 0 0) [] := World.ownsRow_lit (size := 3) (e := 65) we #[] 0 (Nat.le_refl _) (by decide) rfl
          have BA := BE.alloc BE.size (.cells #[] 65)
          have XA := XE.alloc (.cells #[] 65)
          have F1 := (H.out.grown (w' := we.alloc (.cells #[] 65)) ⟨BA.os, BA.tape, BA.output, BA.size, fun j hj _ => BA.block j hj⟩).front 0
          have HF1 := Lib.hid F1
          have HO := Lib.hid O0
          have hlk : (ts.take 0).length = 0 := by rw [List.length_take, HT.out]; omega
          obtain ⟨tk, htk⟩ : ∃ l, ts.take 0 = l := ⟨_, rfl⟩
          rw [htk] at hlk HF1
          have HTKE := Lib.hid htk
          clear htk
          have HLK := Lib.hid hlk
          clear O0 F1 hlk BE XE
          go_wp2_with (at_builtin; refine wpList_append_own _ rfl _ _ 31 rfl we.heap.size 65 i0 (.agg #[.string ⟨#[]⟩, .string ⟨#[]⟩, .string ⟨#[]⟩]) 3 48 Tryz.underlying31 hi hz0 hz1 hz2 rfl (by decide) _ _ _ rfl HO.out ⟨b, off, none⟩ 0 _ (flat tk) rfl (by rw [flat_len, HLK.out]) HF1.out (by first | exact flat_one _ | (intro x hx; simp at hx; rcases hx with rfl | rfl | rfl <;> rfl)) ?h63a ?h48a ?hbsa ?_)
          case h63a => rw [List.length_nil]; unfold maxLen; omega
          case h48a => rw [List.length_nil]; omega
          case hbsa => first | omega | (simp only [World.size_alloc]; omega)
          intro v1 w1 hown1 hg1 _
          have O1 : OwnT we.heap.size w1 v1 tk := by unfold OwnT; rw [HLK.out]; simpa [flat] using hown1
          have B1 : Below w.heap.size w w1 := BA.grown hg1 BA.size (fun j hj => by simp [Value.ownBlock] at hj; omega)
          have X1 := XA.grown hg1 (by simp [Value.ownBlock]; omega)
          have hs1 : we.heap.size + 1 ≤ w1.heap.size := by have := hg1.size; rw [World.size_alloc] at this; omega
          have HO1 := Lib.hid O1
          have hne1 := fun j hj => (World.ownsRow.lt O1 j hj).1
          obtain ⟨e0, e1, e2⟩ := X1.cells
          clear hown1 hg1 HO HF1 BA XA O1
          have HR : Hid (putT ts (s, p, o) = ts.take 0 ++ [(s, p, o)]) := Lib.hid (by
            rw [put_more HA.out (by rw [HNK.out]; simp), List.drop_eq_nil_of_le (by rw [HT.out]; exact Nat.le_refl _), List.append_nil])
          clear HA HNK
          go_wp2_with fail
          go_quiet (fail)
          have Bd : Below w.heap.size w (w1.drewN nq) := below_drewN B1 nq
          have Od : OwnT we.heap.size (w1.drewN nq) v1 tk := HO1.out
          have Xd : Box (w1.drewN nq) w.heap.size (.string s) (.string p) (.string o) 65 := X1
          have hsd : we.heap.size + 1 ≤ (w1.drewN nq).heap.size := hs1
          clear e0 e1 e2 B1 X1 HO1 hs1
          generalize w1.drewN nq = wd at Bd Od Xd hsd ⊢
          have HO1 := Lib.hid Od
          obtain ⟨e0, e1, e2⟩ := Xd.cells
          clear Od
          have HC : ∀ (j : Nat) (x : Value), [Value.string s, .string p, .string o][j]? = some x → (wd.alloc (.cells #[.string s, .string p, .string o] 65)).cell? ((⟨wd.heap.size, 0, none⟩ : Addr).add j) = some x := three_cell
          have HH := Lib.hid HC
          have B1a := Bd.alloc Bd.size (.cells #[.string s, .string p, .string o] 65)
          have O1a := Lib.hid (World.ownsRow.alloc HO1.out (.cells #[.string s, .string p, .string o] 65))
          clear HC
          go_wp2_with (at_builtin; refine wpList_append_own _ rfl _ _ 31 rfl we.heap.size 65 i0 (.agg #[.string ⟨#[]⟩, .string ⟨#[]⟩, .string ⟨#[]⟩]) 3 48 Tryz.underlying31 hi hz0 hz1 hz2 rfl (by decide) _ _ _ rfl O1a.out ⟨wd.heap.size, 0, none⟩ 1 _ [.string s, .string p, .string o] rfl rfl HH.out (by first | exact flat_one _ | (intro x hx; simp at hx; rcases hx with rfl | rfl | rfl <;> rfl)) ?h63b ?h48b ?hbsb ?_)
          case h63b => rw [HLK.out]; unfold maxLen; omega
          case h48b => rw [HLK.out]; omega
          case hbsb => first | omega | (simp only [World.size_alloc]; omega)
          intro v2 w2 hown2 hg2 _
          have O2 : OwnT we.heap.size w2 v2 (tk ++ [(s, p, o)]) := own3_snoc (t := (s, p, o)) hown2
          have B2 : Below w.heap.size w w2 := B1a.grown hg2 B1a.size (fun j hj => by have := hne1 j hj; omega)
          have hs2 : we.heap.size + 1 ≤ w2.heap.size := by have := hg2.size; rw [World.size_alloc] at this; omega
          have HO2 := Lib.hid O2
          have hne2 := fun j hj => (World.ownsRow.lt O2 j hj).1
          clear hown2 hg2 O1a HH B1a O2 HO1 Xd Bd
          have HOX := HO2.out
          have hlp : (tk ++ [(s, p, o)]).length = 0 + 1 := by rw [List.length_append, HLK.out]; rfl
          obtain ⟨pf, hpf⟩ : ∃ l, tk ++ [(s, p, o)] = l := ⟨_, rfl⟩
          rw [HTKE.out, hpf] at HR
          rw [hpf] at hlp HOX
          have HLP := Lib.hid hlp
          have HOY := Lib.hid HOX
          clear hlp hpf HOX
          go_wp2_with (at_builtin; refine wpList_append_own _ rfl _ _ 31 rfl we.heap.size 65 i0 (.agg #[.string ⟨#[]⟩, .string ⟨#[]⟩, .string ⟨#[]⟩]) 3 48 Tryz.underlying31 hi hz0 hz1 hz2 rfl (by decide) _ _ _ rfl HOY.out _ 0 _ [] rfl rfl (fun j x hx => by simp at hx) (fun x hx => by simp at hx) ?h63c ?h48c ?hbsc ?_)
          case h63c => rw [HLP.out]; unfold maxLen; omega
          case h48c => rw [HLP.out]; omega
          case hbsc => first | omega | (simp only [World.size_alloc]; omega)
          intro v3 w3 hown3 hg3 _
          have O3 : OwnT we.heap.size w3 v3 pf := by unfold OwnT; simpa using hown3
          have B3 : Below w.heap.size w w3 := B2.grown hg3 B2.size (fun j hj => by have := hne2 j hj; omega)
          have O4 := own_base O3 (Nat.le_of_lt hcl)
          have HO4 := Lib.hid O4
          clear hown3 hg3 O3 O4
          go_wp2_with fail
          go_ret
          exact ⟨v3, rfl, by rw [HR.out]; exact HO4.out, B3⟩
      · have hk9 : ¬ (k : Int) < (k : Int) := by omega
        have hd : decide ((k : Int) < (k : Int)) = false := by simp
        have hkz : ¬ k = 0 := by omega
        rcases Nat.lt_or_eq_of_le hc1 with hcc | rfl
        · have hcd : ¬ k = cap := by omega
          go_wp2_with fail
          go_quiet (fail)
          have BE : Below w.heap.size w (wr.drewN nq) := below_drewN hnx nq
          have XE : Box (wr.drewN nq) w.heap.size (.string s) (.string p) (.string o) 65 := hbox.out
          clear hnx hbox c0 c1 c2
          generalize wr.drewN nq = we at BE XE ⊢
          have hcl : w.heap.size < we.heap.size := XE.lt
          have O0 : OwnT we.heap.size (we.alloc (.cells #[] 65)) (.slice (some ⟨we.heap.size, 0, none⟩) 0 0) [] := World.ownsRow_lit (size := 3) (e := 65) we #[] 0 (Nat.le_refl _) (by decide) rfl
          have BA := BE.alloc BE.size (.cells #[] 65)
          have XA := XE.alloc (.cells #[] 65)
          have F1 := (H.out.grown (w' := we.alloc (.cells #[] 65)) ⟨BA.os, BA.tape, BA.output, BA.size, fun j hj _ => BA.block j hj⟩).front k
          have HF1 := Lib.hid F1
          have HO := Lib.hid O0
          have hlk : (ts.take k).length = k := by rw [List.length_take, HT.out]; omega
          obtain ⟨tk, htk⟩ : ∃ l, ts.take k = l := ⟨_, rfl⟩
          rw [htk] at hlk HF1
          have HTKE := Lib.hid htk
          clear htk
          have HLK := Lib.hid hlk
          clear O0 F1 hlk BE XE
          go_wp2_with (at_builtin; refine wpList_append_own _ rfl _ _ 31 rfl we.heap.size 65 i0 (.agg #[.string ⟨#[]⟩, .string ⟨#[]⟩, .string ⟨#[]⟩]) 3 48 Tryz.underlying31 hi hz0 hz1 hz2 rfl (by decide) _ _ _ rfl HO.out ⟨b, off, none⟩ k _ (flat tk) rfl (by rw [flat_len, HLK.out]) HF1.out (by first | exact flat_one _ | (intro x hx; simp at hx; rcases hx with rfl | rfl | rfl <;> rfl)) ?h63a ?h48a ?hbsa ?_)
          case h63a => rw [List.length_nil]; unfold maxLen; omega
          case h48a => rw [List.length_nil]; omega
          case hbsa => first | omega | (simp only [World.size_alloc]; omega)
          intro v1 w1 hown1 hg1 _
          have O1 : OwnT we.heap.size w1 v1 tk := by unfold OwnT; rw [HLK.out]; simpa [flat] using hown1
          have B1 : Below w.heap.size w w1 := BA.grown hg1 BA.size (fun j hj => by simp [Value.ownBlock] at hj; omega)
          have X1 := XA.grown hg1 (by simp [Value.ownBlock]; omega)
          have hs1 : we.heap.size + 1 ≤ w1.heap.size := by have := hg1.size; rw [World.size_alloc] at this; omega
          have HO1 := Lib.hid O1
          have hne1 := fun j hj => (World.ownsRow.lt O1 j hj).1
          obtain ⟨e0, e1, e2⟩ := X1.cells
          clear hown1 hg1 HO HF1 BA XA O1
          have HR : Hid (putT ts (s, p, o) = ts.take k ++ [(s, p, o)]) := Lib.hid (by
            rw [put_more HA.out (by rw [HNK.out]; simp), List.drop_eq_nil_of_le (by rw [HT.out]; exact Nat.le_refl _), List.append_nil])
          clear HA HNK
          go_wp2_with fail
          go_quiet (fail)
          have Bd : Below w.heap.size w (w1.drewN nq) := below_drewN B1 nq
          have Od : OwnT we.heap.size (w1.drewN nq) v1 tk := HO1.out
          have Xd : Box (w1.drewN nq) w.heap.size (.string s) (.string p) (.string o) 65 := X1
          have hsd : we.heap.size + 1 ≤ (w1.drewN nq).heap.size := hs1
          clear e0 e1 e2 B1 X1 HO1 hs1
          generalize w1.drewN nq = wd at Bd Od Xd hsd ⊢
          have HO1 := Lib.hid Od
          obtain ⟨e0, e1, e2⟩ := Xd.cells
          clear Od
          have HC : ∀ (j : Nat) (x : Value), [Value.string s, .string p, .string o][j]? = some x → (wd.alloc (.cells #[.string s, .string p, .string o] 65)).cell? ((⟨wd.heap.size, 0, none⟩ : Addr).add j) = some x := three_cell
          have HH := Lib.hid HC
          have B1a := Bd.alloc Bd.size (.cells #[.string s, .string p, .string o] 65)
          have O1a := Lib.hid (World.ownsRow.alloc HO1.out (.cells #[.string s, .string p, .string o] 65))
          clear HC
          go_wp2_with (at_builtin; refine wpList_append_own _ rfl _ _ 31 rfl we.heap.size 65 i0 (.agg #[.string ⟨#[]⟩, .string ⟨#[]⟩, .string ⟨#[]⟩]) 3 48 Tryz.underlying31 hi hz0 hz1 hz2 rfl (by decide) _ _ _ rfl O1a.out ⟨wd.heap.size, 0, none⟩ 1 _ [.string s, .string p, .string o] rfl rfl HH.out (by first | exact flat_one _ | (intro x hx; simp at hx; rcases hx with rfl | rfl | rfl <;> rfl)) ?h63b ?h48b ?hbsb ?_)
          case h63b => rw [HLK.out]; unfold maxLen; omega
          case h48b => rw [HLK.out]; omega
          case hbsb => first | omega | (simp only [World.size_alloc]; omega)
          intro v2 w2 hown2 hg2 _
          have O2 : OwnT we.heap.size w2 v2 (tk ++ [(s, p, o)]) := own3_snoc (t := (s, p, o)) hown2
          have B2 : Below w.heap.size w w2 := B1a.grown hg2 B1a.size (fun j hj => by have := hne1 j hj; omega)
          have hs2 : we.heap.size + 1 ≤ w2.heap.size := by have := hg2.size; rw [World.size_alloc] at this; omega
          have HO2 := Lib.hid O2
          have hne2 := fun j hj => (World.ownsRow.lt O2 j hj).1
          clear hown2 hg2 O1a HH B1a O2 HO1 Xd Bd
          have HOX := HO2.out
          have hlp : (tk ++ [(s, p, o)]).length = k + 1 := by rw [List.length_append, HLK.out]; rfl
          obtain ⟨pf, hpf⟩ : ∃ l, tk ++ [(s, p, o)] = l := ⟨_, rfl⟩
          rw [HTKE.out, hpf] at HR
          rw [hpf] at hlp HOX
          have HLP := Lib.hid hlp
          have HOY := Lib.hid HOX
          clear hlp hpf HOX
          go_wp2_with (at_builtin; refine wpList_append_own _ rfl _ _ 31 rfl we.heap.size 65 i0 (.agg #[.string ⟨#[]⟩, .string ⟨#[]⟩, .string ⟨#[]⟩]) 3 48 Tryz.underlying31 hi hz0 hz1 hz2 rfl (by decide) _ _ _ rfl HOY.out _ 0 _ [] rfl rfl (fun j x hx => by simp at hx) (fun x hx => by simp at hx) ?h63c ?h48c ?hbsc ?_)
          case h63c => rw [HLP.out]; unfold maxLen; omega
          case h48c => rw [HLP.out]; omega
          case hbsc => first | omega | (simp only [World.size_alloc]; omega)
          intro v3 w3 hown3 hg3 _
          have O3 : OwnT we.heap.size w3 v3 pf := by unfold OwnT; simpa using hown3
          have B3 : Below w.heap.size w w3 := B2.grown hg3 B2.size (fun j hj => by have := hne2 j hj; omega)
          have O4 := own_base O3 (Nat.le_of_lt hcl)
          have HO4 := Lib.hid O4
          clear hown3 hg3 O3 O4
          go_wp2_with fail
          go_ret
          exact ⟨v3, rfl, by rw [HR.out]; exact HO4.out, B3⟩
        · go_wp2_with fail
          go_quiet (fail)
          have BE : Below w.heap.size w (wr.drewN nq) := below_drewN hnx nq
          have XE : Box (wr.drewN nq) w.heap.size (.string s) (.string p) (.string o) 65 := hbox.out
          clear hnx hbox c0 c1 c2
          generalize wr.drewN nq = we at BE XE ⊢
          have hcl : w.heap.size < we.heap.size := XE.lt
          have O0 : OwnT we.heap.size (we.alloc (.cells #[] 65)) (.slice (some ⟨we.heap.size, 0, none⟩) 0 0) [] := World.ownsRow_lit (size := 3) (e := 65) we #[] 0 (Nat.le_refl _) (by decide) rfl
          have BA := BE.alloc BE.size (.cells #[] 65)
          have XA := XE.alloc (.cells #[] 65)
          have F1 := (H.out.grown (w' := we.alloc (.cells #[] 65)) ⟨BA.os, BA.tape, BA.output, BA.size, fun j hj _ => BA.block j hj⟩).front k
          have HF1 := Lib.hid F1
          have HO := Lib.hid O0
          have hlk : (ts.take k).length = k := by rw [List.length_take, HT.out]; omega
          obtain ⟨tk, htk⟩ : ∃ l, ts.take k = l := ⟨_, rfl⟩
          rw [htk] at hlk HF1
          have HTKE := Lib.hid htk
          clear htk
          have HLK := Lib.hid hlk
          clear O0 F1 hlk BE XE
          go_wp2_with (at_builtin; refine wpList_append_own _ rfl _ _ 31 rfl we.heap.size 65 i0 (.agg #[.string ⟨#[]⟩, .string ⟨#[]⟩, .string ⟨#[]⟩]) 3 48 Tryz.underlying31 hi hz0 hz1 hz2 rfl (by decide) _ _ _ rfl HO.out ⟨b, off, none⟩ k _ (flat tk) rfl (by rw [flat_len, HLK.out]) HF1.out (by first | exact flat_one _ | (intro x hx; simp at hx; rcases hx with rfl | rfl | rfl <;> rfl)) ?h63a ?h48a ?hbsa ?_)
          case h63a => rw [List.length_nil]; unfold maxLen; omega
          case h48a => rw [List.length_nil]; omega
          case hbsa => first | omega | (simp only [World.size_alloc]; omega)
          intro v1 w1 hown1 hg1 _
          have O1 : OwnT we.heap.size w1 v1 tk := by unfold OwnT; rw [HLK.out]; simpa [flat] using hown1
          have B1 : Below w.heap.size w w1 := BA.grown hg1 BA.size (fun j hj => by simp [Value.ownBlock] at hj; omega)
          have X1 := XA.grown hg1 (by simp [Value.ownBlock]; omega)
          have hs1 : we.heap.size + 1 ≤ w1.heap.size := by have := hg1.size; rw [World.size_alloc] at this; omega
          have HO1 := Lib.hid O1
          have hne1 := fun j hj => (World.ownsRow.lt O1 j hj).1
          obtain ⟨e0, e1, e2⟩ := X1.cells
          clear hown1 hg1 HO HF1 BA XA O1
          have HR : Hid (putT ts (s, p, o) = ts.take k ++ [(s, p, o)]) := Lib.hid (by
            rw [put_more HA.out (by rw [HNK.out]; simp), List.drop_eq_nil_of_le (by rw [HT.out]; exact Nat.le_refl _), List.append_nil])
          clear HA HNK
          go_wp2_with fail
          go_quiet (fail)
          have Bd : Below w.heap.size w (w1.drewN nq) := below_drewN B1 nq
          have Od : OwnT we.heap.size (w1.drewN nq) v1 tk := HO1.out
          have Xd : Box (w1.drewN nq) w.heap.size (.string s) (.string p) (.string o) 65 := X1
          have hsd : we.heap.size + 1 ≤ (w1.drewN nq).heap.size := hs1
          clear e0 e1 e2 B1 X1 HO1 hs1
          generalize w1.drewN nq = wd at Bd Od Xd hsd ⊢
          have HO1 := Lib.hid Od
          obtain ⟨e0, e1, e2⟩ := Xd.cells
          clear Od
          have HC : ∀ (j : Nat) (x : Value), [Value.string s, .string p, .string o][j]? = some x → (wd.alloc (.cells #[.string s, .string p, .string o] 65)).cell? ((⟨wd.heap.size, 0, none⟩ : Addr).add j) = some x := three_cell
          have HH := Lib.hid HC
          have B1a := Bd.alloc Bd.size (.cells #[.string s, .string p, .string o] 65)
          have O1a := Lib.hid (World.ownsRow.alloc HO1.out (.cells #[.string s, .string p, .string o] 65))
          clear HC
          go_wp2_with (at_builtin; refine wpList_append_own _ rfl _ _ 31 rfl we.heap.size 65 i0 (.agg #[.string ⟨#[]⟩, .string ⟨#[]⟩, .string ⟨#[]⟩]) 3 48 Tryz.underlying31 hi hz0 hz1 hz2 rfl (by decide) _ _ _ rfl O1a.out ⟨wd.heap.size, 0, none⟩ 1 _ [.string s, .string p, .string o] rfl rfl HH.out (by first | exact flat_one _ | (intro x hx; simp at hx; rcases hx with rfl | rfl | rfl <;> rfl)) ?h63b ?h48b ?hbsb ?_)
          case h63b => rw [HLK.out]; unfold maxLen; omega
          case h48b => rw [HLK.out]; omega
          case hbsb => first | omega | (simp only [World.size_alloc]; omega)
          intro v2 w2 hown2 hg2 _
          have O2 : OwnT we.heap.size w2 v2 (tk ++ [(s, p, o)]) := own3_snoc (t := (s, p, o)) hown2
          have B2 : Below w.heap.size w w2 := B1a.grown hg2 B1a.size (fun j hj => by have := hne1 j hj; omega)
          have hs2 : we.heap.size + 1 ≤ w2.heap.size := by have := hg2.size; rw [World.size_alloc] at this; omega
          have HO2 := Lib.hid O2
          have hne2 := fun j hj => (World.ownsRow.lt O2 j hj).1
          clear hown2 hg2 O1a HH B1a O2 HO1 Xd Bd
          have HOX := HO2.out
          have hlp : (tk ++ [(s, p, o)]).length = k + 1 := by rw [List.length_append, HLK.out]; rfl
          obtain ⟨pf, hpf⟩ : ∃ l, tk ++ [(s, p, o)] = l := ⟨_, rfl⟩
          rw [HTKE.out, hpf] at HR
          rw [hpf] at hlp HOX
          have HLP := Lib.hid hlp
          have HOY := Lib.hid HOX
          clear hlp hpf HOX
          go_wp2_with (at_builtin; refine wpList_append_own _ rfl _ _ 31 rfl we.heap.size 65 i0 (.agg #[.string ⟨#[]⟩, .string ⟨#[]⟩, .string ⟨#[]⟩]) 3 48 Tryz.underlying31 hi hz0 hz1 hz2 rfl (by decide) _ _ _ rfl HOY.out _ 0 _ [] rfl rfl (fun j x hx => by simp at hx) (fun x hx => by simp at hx) ?h63c ?h48c ?hbsc ?_)
          case h63c => rw [HLP.out]; unfold maxLen; omega
          case h48c => rw [HLP.out]; omega
          case hbsc => first | omega | (simp only [World.size_alloc]; omega)
          intro v3 w3 hown3 hg3 _
          have O3 : OwnT we.heap.size w3 v3 pf := by unfold OwnT; simpa using hown3
          have B3 : Below w.heap.size w w3 := B2.grown hg3 B2.size (fun j hj => by have := hne2 j hj; omega)
          have O4 := own_base O3 (Nat.le_of_lt hcl)
          have HO4 := Lib.hid O4
          clear hown3 hg3 O3 O4
          go_wp2_with fail
          go_ret
          exact ⟨v3, rfl, by rw [HR.out]; exact HO4.out, B3⟩
open Go.RowKit Go.WideShapes
set_option maxRecDepth 100000 in
set_option maxHeartbeats 1600000 in
theorem specPutNil (s p o : ByteArray) (w : World) :
    Calls Tryz.prog 133 #[.slice none 0 0, .agg #[.string s, .string p, .string o]] w fun e w' => ∃ v, e = .returned v ∧ OwnT w.heap.size w' v (putT [] (s, p, o)) ∧ Below w.heap.size w w' := by
  obtain ⟨i0, hi, hz0, hz1, hz2⟩ := info_parts infoTri
  have HR : Hid (putT [] (s, p, o) = [(s, p, o)]) := Lib.hid (by unfold putT; simp [atT])
  have B0 := (Below.refl w.heap.size w).alloc (Nat.le_refl _) (.cells #[.string s, .string p, .string o] 65)
  have X0 := Box.new w (.string s) (.string p) (.string o) 65
  go_enter Tryz.func133, Tryz.ntmps133
  go_wp2_with fail
  refine wp_loop_rounds 1 ?_
  rw [rounds_succ]
  go_wp2_with fail
  go_quiet (fail)
  have BE : Below w.heap.size w (World.drewN (w.alloc (.cells #[.string s, .string p, .string o] 65)) nq) := below_drewN B0 nq
  have XE : Box (World.drewN (w.alloc (.cells #[.string s, .string p, .string o] 65)) nq) w.heap.size (.string s) (.string p) (.string o) 65 := X0
  clear B0 X0
  generalize World.drewN (w.alloc (.cells #[.string s, .string p, .string o] 65)) nq = we at BE XE ⊢
  have hcl : w.heap.size < we.heap.size := XE.lt
  have O0 : OwnT we.heap.size (we.alloc (.cells #[] 65)) (.slice (some ⟨we.heap.size, 0, none⟩) 0 0) [] := World.ownsRow_lit (size := 3) (e := 65) we #[] 0 (Nat.le_refl _) (by decide) rfl
  have BA := BE.alloc BE.size (.cells #[] 65)
  have XA := XE.alloc (.cells #[] 65)
  have hsA : we.heap.size + 1 ≤ (we.alloc (.cells #[] 65)).heap.size := by rw [World.size_alloc]; omega
  have HO := Lib.hid O0
  clear O0 BE XE
  go_wp2_with (at_builtin; refine wpList_append_own_none rfl _ _ 31 rfl we.heap.size 65 i0 3 Tryz.underlying31 hi _ _ _ rfl HO.out rfl ?_)
  go_wp2_with fail
  go_quiet (fail)
  have B1 : Below w.heap.size w (World.drewN (we.alloc (.cells #[] 65)) nq) := below_drewN BA nq
  have X1 : Box (World.drewN (we.alloc (.cells #[] 65)) nq) w.heap.size (.string s) (.string p) (.string o) 65 := XA
  have O1 : OwnT we.heap.size (World.drewN (we.alloc (.cells #[] 65)) nq) (.slice (some ⟨we.heap.size, 0, none⟩) 0 0) [] := HO.out
  have hs1 : we.heap.size + 1 ≤ (World.drewN (we.alloc (.cells #[] 65)) nq).heap.size := hsA
  clear BA XA HO hsA
  generalize World.drewN (we.alloc (.cells #[] 65)) nq = w1 at B1 X1 O1 hs1 ⊢
  obtain ⟨e0, e1, e2⟩ := X1.cells
  have HC : ∀ (j : Nat) (x : Value), [Value.string s, .string p, .string o][j]? = some x → (w1.alloc (.cells #[.string s, .string p, .string o] 65)).cell? ((⟨w1.heap.size, 0, none⟩ : Addr).add j) = some x := three_cell
  have HH := Lib.hid HC
  have B1a := B1.alloc B1.size (.cells #[.string s, .string p, .string o] 65)
  have O1a := Lib.hid (World.ownsRow.alloc O1 (.cells #[.string s, .string p, .string o] 65))
  clear HC O1
  go_wp2_with (at_builtin; refine wpList_append_own _ rfl _ _ 31 rfl we.heap.size 65 i0 (.agg #[.string ⟨#[]⟩, .string ⟨#[]⟩, .string ⟨#[]⟩]) 3 48 Tryz.underlying31 hi hz0 hz1 hz2 rfl (by decide) _ _ _ rfl O1a.out ⟨w1.heap.size, 0, none⟩ 1 _ [.string s, .string p, .string o] rfl rfl HH.out (by first | exact flat_one _ | (intro x hx; simp at hx; rcases hx with rfl | rfl | rfl <;> rfl)) ?h63b ?h48b ?hbsb ?_)
  case h63b => rw [List.length_nil]; unfold maxLen; omega
  case h48b => rw [List.length_nil]; omega
  case hbsb => simp only [World.size_alloc]; omega
  intro v2 w2 hown2 hg2 _
  have O2 : OwnT we.heap.size w2 v2 [(s, p, o)] := own3_snoc (ts := []) (t := (s, p, o)) hown2
  have B2 : Below w.heap.size w w2 := B1a.grown hg2 B1a.size (fun j hj => by simp [Value.ownBlock] at hj; omega)
  have O4 := own_base O2 (Nat.le_of_lt hcl)
  have HO4 := Lib.hid O4
  have HO2 := Lib.hid O2
  clear hown2 hg2 O1a HH B1a O2 O4 e0 e1 e2 X1 B1
  go_wp2_with (at_builtin; refine wpList_append_own_none rfl _ _ 31 rfl we.heap.size 65 i0 3 Tryz.underlying31 hi _ _ _ rfl HO2.out rfl ?_)
  go_wp2_with fail
  go_ret
  exact ⟨v2, rfl, by rw [HR.out]; exact HO4.out, B2⟩
theorem specPutAny (a : Option Addr) (len cap : Nat) (ts : List Tri3) (s p o : ByteArray) (w : World) (h : IsTris w a len cap ts) (hp : Plain a) (hl : len ≤ 1048576) :
    Calls Tryz.prog 133 #[.slice a len cap, .agg #[.string s, .string p, .string o]] w fun e w' => ∃ v, e = .returned v ∧ OwnT w.heap.size w' v (putT ts (s, p, o)) ∧ Below w.heap.size w w' := by
  rcases hp with rfl | ⟨b, off, rfl⟩
  · rcases h with ⟨_, rfl, rfl, rfl⟩ | ⟨x, hx, _⟩
    · exact specPutNil s p o w
    · cases hx
  · exact specPut b off len cap ts s p o w h hl
end Go.Proofs.YtiajdnhmjdfeeaaGreat
namespace Go.Proofs.YtiajdnhmjdfeeaaGreat
open Go.RowKit Go.WideShapes
theorem OwnT.plain {B : Nat} {w : World} {v : Value} {ts : List Tri3} (h : OwnT B w v ts) (hm : ∀ t ∈ ts, t.1.size ≤ maxLen ∧ t.2.1.size ≤ maxLen ∧ t.2.2.size ≤ maxLen) : ∃ a cap, v = .slice a ts.length cap ∧ IsTris w a ts.length cap ts ∧ Plain a := by
  obtain ⟨a, cap, hv, hi⟩ := h.is hm
  refine ⟨a, cap, hv, hi, ?_⟩
  rcases h.2 with ⟨e, _⟩ | ⟨g, c, cur, e, _⟩
  · rw [hv] at e
    simp only [Value.slice.injEq] at e
    exact .inl e.1
  · rw [hv] at e
    simp only [Value.slice.injEq] at e
    exact .inr ⟨g, 0, e.1⟩
set_option maxRecDepth 100000 in
set_option maxHeartbeats 1600000 in
theorem specWith (a : Option Addr) (len cap : Nat) (ts : List Tri3) (s p o : ByteArray) (w : World) (h : IsTris w a len cap ts) (hpl : Plain a) (hsm : Sm ts) (hs : s.size ≤ 2097152) (hp : p.size ≤ 2097152) (ho : o.size ≤ 2097152) :
    Calls Tryz.prog 110 #[.slice a len cap, .agg #[.string s, .string p, .string o]] w (ResPost (withT ts (s, p, o)) w) := by
  have A1 := specGraphOk a len cap ts (w.alloc (.cells #[.string s, .string p, .string o] 65)) (h.next ((Below.refl w.heap.size w).alloc (Nat.le_refl _) _)) hsm
  have B0 := (Below.refl w.heap.size w).alloc (Nat.le_refl _) (.cells #[.string s, .string p, .string o] 65)
  have X0 := Box.new w (.string s) (.string p) (.string o) 65
  have h0 := h.next B0
  cases hg : graphOk ts
  · rw [hg] at A1
    have HR : Hid (withT ts (s, p, o) = none) := Lib.hid (by unfold withT; rw [hg]; simp)
    have C1 := Lib.hid A1
    clear A1 hg h h0 hsm X0
    go_enter Tryz.func110, Tryz.ntmps110
    go_wp2_with fail
    refine C1.out.mono ?_
    rintro e w1 ⟨rfl, hb1⟩
    go_wp2_with fail
    go_ret2
    rw [HR.out]
    exact ResPost.no (B0.trans (hb1.mono B0.size))
  rw [hg] at A1
  have hl := h.len
  have hl80 := graphOk_len hg
  have hlen : len ≤ 1048576 := by omega
  have C1 := Lib.hid A1
  have A2 := specTripleOk s p o hs hp ho
  change ∀ w, Calls _ _ _ w fun e w' => e = .returned (.bool (okT (s, p, o))) ∧ Below w.heap.size w w' at A2
  cases ht : okT (s, p, o)
  · rw [ht] at A2
    have HR : Hid (withT ts (s, p, o) = none) := Lib.hid (by unfold withT; rw [ht]; simp)
    have C2 := Lib.hid A2
    clear A1 A2 hg ht h h0 hsm hl hl80
    go_enter Tryz.func110, Tryz.ntmps110
    go_wp2_with fail
    refine C1.out.mono ?_
    rintro e w1 ⟨rfl, hb1⟩
    have X1 := X0.next hb1
    obtain ⟨c0, c1, c2⟩ := X1.cells
    have B1 := B0.trans (hb1.mono B0.size)
    clear X0 hb1 B0
    go_wp2_with fail
    refine (C2.out _).mono ?_
    rintro e w2 ⟨rfl, hb2⟩
    go_wp2_with fail
    go_ret2
    rw [HR.out]
    exact ResPost.no (B1.trans (hb2.mono B1.size))
  rw [ht] at A2
  have C2 := Lib.hid A2
  have hlp := putT_len ts (s, p, o)
  have hlp2 : (putT ts (s, p, o)).length ≤ 81 := by omega
  have HY : Hid ((putT ts (s, p, o)).length ≤ 80 → withT ts (s, p, o) = some (putT ts (s, p, o))) := Lib.hid (fun c => by unfold withT; rw [if_pos ⟨hg, ht, c⟩])
  have HN : Hid (¬ (putT ts (s, p, o)).length ≤ 80 → withT ts (s, p, o) = none) := Lib.hid (fun c => by unfold withT; rw [if_neg (fun h => c h.2.2)])
  have HP := Lib.hid hpl
  clear A1 A2 hg ht h hsm hl hl80 hlp hpl
  go_enter Tryz.func110, Tryz.ntmps110
  go_wp2_with fail
  refine C1.out.mono ?_
  rintro e w1 ⟨rfl, hb1⟩
  have X1 := X0.next hb1
  have h1 := h0.next hb1
  obtain ⟨c0, c1, c2⟩ := X1.cells
  have B1 := B0.trans (hb1.mono B0.size)
  clear X0 hb1 B0 h0
  go_wp2_with fail
  refine (C2.out _).mono ?_
  rintro e w2 ⟨rfl, hb2⟩
  have X2 := X1.next hb2
  have h2 := h1.next hb2
  have B2 := B1.trans (hb2.mono B1.size)
  clear X1 hb2 B1 h1 c0 c1 c2
  obtain ⟨c0, c1, c2⟩ := X2.cells
  have U := Lib.hid (specPutAny a len cap ts s p o w2 h2 HP.out hlen)
  clear h2
  go_wp2_with fail
  refine U.out.mono ?_
  rintro e w3 ⟨v, rfl, ho3, hb3⟩
  have O3 := own_base ho3 B2.size
  have B3 := B2.trans (hb3.mono B2.size)
  obtain ⟨uu, huu⟩ : ∃ l, putT ts (s, p, o) = l := ⟨_, rfl⟩
  rw [huu] at O3 HY HN hlp2
  obtain ⟨x, y, rfl⟩ : ∃ x y, v = .slice x uu.length y := by
    rcases O3.2 with ⟨rfl, e⟩ | ⟨g, c, cur, rfl, _⟩
    · exact ⟨none, 0, by rw [e]⟩
    · exact ⟨_, _, rfl⟩
  have HO := Lib.hid O3
  clear ho3 hb3 O3 U huu c0 c1 c2 X2
  by_cases c : (80 : Int) < (uu.length : Int)
  · have HR := Lib.hid (HN.out (by omega))
    clear HY HN
    go_wp2_with fail
    go_ret2
    rw [HR.out]
    exact ResPost.no B3
  · have HR := Lib.hid (HY.out (by omega))
    clear HY HN
    go_wp2_with fail
    go_ret2
    rw [HR.out]
    exact ResPost.yes HO.out B3
end Go.Proofs.YtiajdnhmjdfeeaaGreat
namespace Go.Proofs.YtiajdnhmjdfeeaaGreat
open Go.RowKit Go.WideShapes
theorem SmG.with_ {ts : List Tri3} {t : Tri3} (h : SmG ts) (ht : t.1.size ≤ 20 ∧ t.2.1.size ≤ 20 ∧ t.2.2.size ≤ 20) : SmG ((withT ts t).getD []) ∧ ((withT ts t).getD []).length ≤ 80 := by
  cases e : withT ts t with
  | none => exact ⟨⟨by simp, by simp⟩, by simp⟩
  | some g =>
    obtain ⟨_, _, rfl, hg⟩ := withT_some e
    have hl := graphOk_len hg
    refine ⟨⟨by simp only [Option.getD_some]; omega, fun u hu => ?_⟩, hl⟩
    rcases putT_mem.1 hu with rfl | hu
    · exact ht
    · exact h.2 u hu
theorem rd_far {B g : Nat} {w w' : World} (h : Rd B w g) (hb : Below w.heap.size w w') : Rd B w' g := h.grown (grown_of_below hb) (by simp)
set_option maxRecDepth 100000 in
set_option maxHeartbeats 1600000 in
theorem rdGraph (B g : Nat) (w : World) (h : Rd B w g) (n : Nat) (hn : n ≤ 1000) :
    Calls Tryz.prog 63 #[.pointer (some ⟨g, 0, none⟩), .int .i64 n] w fun e w' => ∃ (v : Value) (ts : List Tri3), e = .returned v ∧ SmG ts ∧ OwnT w.heap.size w' v ts ∧ Rd B w' g ∧ w.grownBy w' (some g) := by
  obtain ⟨i0, hi, hz0, hz1, hzB⟩ := info_parts infoTri
  have hgw := h.2.1
  have hBg := h.1
  have R0 := h.alloc (.cells #[] 65)
  have G0 := World.grownBy_alloc w (.cells #[] 65) (some g)
  have O0 : OwnT w.heap.size (w.alloc (.cells #[] 65)) (.slice (some ⟨w.heap.size, 0, none⟩) 0 0) [] := World.ownsRow_lit (size := 3) (e := 65) w #[] 0 (Nat.le_refl _) (by decide) rfl
  have RB := rdBelow B g _ R0 ((n : Int) + 1) (by omega) (by omega)
  have HRB := Lib.hid RB
  have HO := Lib.hid O0
  clear O0 RB R0
  go_enter Tryz.func63, Tryz.ntmps63
  go_wp2_with fail
  refine HRB.out.mono ?_
  rintro e w1 ⟨m, hm0, hm1, rfl, r1, g1⟩
  have G1 := G0.trans g1
  have O1 := World.ownsRow.kept HO.out g1 (.inr (by simp [Value.ownBlock]; omega))
  obtain ⟨m, rfl⟩ := Int.eq_ofNat_of_zero_le hm0
  have hm2 : m ≤ n := by omega
  have HR1 := Lib.hid r1
  have HO1 := Lib.hid O1
  clear g1 G0 HO O1 r1 HRB hm0 hm1
  go_wp2_with fail
  go_loopw [5, 6] (fun v' i wr => ∃ (j : Nat) (v : Value) (ts : List Tri3), j ≤ n ∧ i = .int .i64 j ∧ v = v' ∧ Hid (SmG ts ∧ ts.length ≤ 80) ∧ Hid (OwnT w.heap.size wr v ts) ∧ Hid (Rd B wr g) ∧ w.grownBy wr (some g)) (fun _ i _ => (intOf i).toNat)
  case atStart => exact ⟨m, _, [], hm2, rfl, rfl, Lib.hid ⟨⟨by simp, by simp⟩, by simp⟩, HO1, HR1, G1⟩
  case round =>
    obtain ⟨j, v, ts, hj, rfl, rfl, hsm, hown, hrd, hg⟩ := hrel
    clear HO1 HR1 G1 hm2
    obtain ⟨x, y, rfl, ii, pl⟩ := OwnT.plain hown.out hsm.out.1.maxLen
    have hlt := fun j hj => (World.ownsRow.lt hown.out j hj).1
    by_cases hj0 : 0 < j
    · have hj1 : (0 : Int) < (j : Int) := by omega
      have HT := Lib.hid (rdTriple B g wr hrd.out)
      have HI := Lib.hid ii
      have HP := Lib.hid pl
      clear ii pl
      obtain ⟨L, hL⟩ : ∃ L, ts.length = L := ⟨_, rfl⟩
      rw [hL] at HI hlt ⊢
      have HL := Lib.hid hL
      have hL80 : L ≤ 80 := by have := hsm.out.2; omega
      clear hL
      go_wp2_with fail
      refine HT.out.mono ?_
      rintro e w2 ⟨s, p, o, hs, hp, ho, rfl, r2, g2⟩
      have G2 := hg.trans g2
      have O2 : OwnT w.heap.size w2 (.slice x L y) ts := by
        have := World.ownsRow.kept hown.out g2 (by
          rw [HL.out]
          rcases hv : (Value.slice x L y).ownBlock with _ | q
          · exact .inl rfl
          · refine .inr fun e => ?_
            have := hlt q hv
            cases e
            omega)
        unfold OwnT at this ⊢
        rw [HL.out] at this ⊢
        exact this
      obtain ⟨x2, y2, hv2, i2, p2⟩ := OwnT.plain O2 hsm.out.1.maxLen
      rw [HL.out] at hv2 i2
      simp only [Value.slice.injEq, true_and] at hv2
      obtain ⟨rfl, rfl⟩ := hv2
      have C := specWith x L y ts s p o w2 i2 p2 hsm.out.1.sm (by omega) (by omega) (by omega)
      have HW := hsm.out.1.with_ (t := (s, p, o)) ⟨hs.2, hp, ho⟩
      obtain ⟨r, hr⟩ : ∃ r, withT ts (s, p, o) = r := ⟨_, rfl⟩
      rw [hr] at C HW
      have HC := Lib.hid C
      have HWW := Lib.hid HW
      have HR2 := Lib.hid r2
      have HO2 := Lib.hid O2
      clear hrd hown g2 r2 i2 p2 C hr hs hp ho O2 HT HI HP HW hg
      cases r with
      | none =>
        go_wp2_with fail
        refine HC.out.mono ?_
        rintro e w3 ⟨v3, rfl, o3, hb3⟩
        have G3 := G2.trans (grown_any (grown_of_below hb3) (some g))
        have R3 := Lib.hid (rd_far HR2.out hb3)
        have O3 := Lib.hid (own_next HO2.out (grown_of_below hb3))
        clear o3 hb3 HC HWW HR2 HO2 G2
        go_wp2_with fail
        go_roundw
        case rel => exact ⟨j - 1, .slice x L y, ts, by omega, by rw [show ((j - 1 : Nat) : Int) = (j : Int) - 1 from by omega], rfl, hsm, O3, R3, G3⟩
        case measure => simp [intOf]; omega
      | some us =>
        go_wp2_with fail
        refine HC.out.mono ?_
        rintro e w3 ⟨v3, rfl, o3, hb3⟩
        have G3 := G2.trans (grown_any (grown_of_below hb3) (some g))
        have R3 := Lib.hid (rd_far HR2.out hb3)
        have O3 := Lib.hid (own_base o3 G2.size)
        clear o3 hb3 HC HR2 HO2 G2
        go_wp2_with fail
        go_roundw
        case rel => exact ⟨j - 1, v3, us, by omega, by rw [show ((j - 1 : Nat) : Int) = (j : Int) - 1 from by omega], rfl, HWW, O3, R3, G3⟩
        case measure => simp [intOf]; omega
    · obtain rfl : j = 0 := by omega
      have HO := Lib.hid (rdOnce B g wr hrd.out 40 (by omega) (by omega))
      obtain ⟨L, hL⟩ : ∃ L, ts.length = L := ⟨_, rfl⟩
      rw [hL] at ii hlt ⊢
      have HL := Lib.hid hL
      have hL80 : L ≤ 80 := by have := hsm.out.2; omega
      clear hL ii pl
      go_wp2_with fail
      refine HO.out.mono ?_
      rintro e w2 ⟨bb, rfl, r2, g2⟩
      have G2 := hg.trans g2
      have O2 : OwnT w.heap.size w2 (.slice x L y) ts := by
        have := World.ownsRow.kept hown.out g2 (by
          rw [HL.out]
          rcases hv : (Value.slice x L y).ownBlock with _ | q
          · exact .inl rfl
          · refine .inr fun e => ?_
            have := hlt q hv
            cases e
            omega)
        unfold OwnT at this ⊢
        rw [HL.out] at this ⊢
        exact this
      have HR2 := Lib.hid r2
      have HO2 := Lib.hid O2
      clear hrd hown g2 r2 HO hg
      cases bb
      · go_wp2_with fail
        go_ret
        exact ⟨_, ts, rfl, hsm.out.1, HO2.out, HR2.out, G2⟩
      · by_cases hL0 : 0 < L
        · have hL1 : (0 : Int) < (L : Int) := by omega
          obtain ⟨x2, y2, hv2, i2⟩ := HO2.out.is hsm.out.1.maxLen
          rw [HL.out] at hv2 i2
          simp only [Value.slice.injEq, true_and] at hv2
          obtain ⟨rfl, rfl⟩ := hv2
          obtain ⟨b1, off, rfl, hb1, hl', hm, hts, hcs⟩ := i2.cells hL0
          have ht : ts[0]? = some (ts[0]'(by omega)) := List.getElem?_eq_getElem (by omega)
          obtain ⟨c0, c1, c2, m0, m1, m2⟩ := hcs 0 _ ht
          have hu := hsm.out.1.2 _ (List.mem_of_getElem? ht)
          generalize ts[0]'(by omega) = u at ht c0 c1 c2 m0 m1 m2 hu
          simp only [Nat.zero_mul, Nat.add_zero] at c0 c1 c2
          have HS : Hid (SmG (ts ++ [u])) := Lib.hid ⟨by rw [List.length_append, HL.out]; simp; omega, fun t ht => by
            rcases List.mem_append.1 ht with h | h
            · exact hsm.out.1.2 t h
            · obtain rfl := List.mem_singleton.1 h
              exact hu⟩
          have HC : ∀ (j : Nat) (z : Value), [Value.string u.1, .string u.2.1, .string u.2.2][j]? = some z → (w2.alloc (.cells #[.string u.1, .string u.2.1, .string u.2.2] 65)).cell? ((⟨w2.heap.size, 0, none⟩ : Addr).add j) = some z := three_cell
          have HH := Lib.hid HC
          have OA := Lib.hid (World.ownsRow.alloc HO2.out (.cells #[.string u.1, .string u.2.1, .string u.2.2] 65))
          have RA := Lib.hid (HR2.out.alloc (.cells #[.string u.1, .string u.2.1, .string u.2.2] 65))
          have GA := G2.trans (World.grownBy_alloc w2 (.cells #[.string u.1, .string u.2.1, .string u.2.2] 65) (some g))
          have hz2 := G2.size
          clear ht hcs hts hm m0 m1 m2 hu HC HO2 HR2 G2 hsm i2
          go_wp2_with (at_builtin; refine wpList_append_own _ rfl _ _ 31 rfl w.heap.size 65 i0 (.agg #[.string ⟨#[]⟩, .string ⟨#[]⟩, .string ⟨#[]⟩]) 3 48 Tryz.underlying31 hi hz0 hz1 hzB rfl (by decide) _ _ _ rfl OA.out ⟨w2.heap.size, 0, none⟩ 1 _ [.string u.1, .string u.2.1, .string u.2.2] rfl rfl HH.out (by intro z hz; simp at hz; rcases hz with rfl | rfl | rfl <;> rfl) ?h63 ?h48 ?hbs ?_)
          case h63 => rw [HL.out]; unfold maxLen; omega
          case h48 => rw [HL.out]; omega
          case hbs => simp only [World.size_alloc]; omega
          intro v3 w3 hown3 hg3 _
          have O3 : OwnT w.heap.size w3 v3 (ts ++ [u]) := own3_snoc (t := u) hown3
          have R3 := RA.out.grown hg3 (fun q e => by have := hlt q (by simpa [HL.out] using e); omega)
          have G3 := grown_off GA hg3 (fun q e => by have := hlt q (by simpa [HL.out] using e); omega)
          clear hown3 hg3 OA RA HH GA c0 c1 c2
          go_wp2_with fail
          go_ret
          exact ⟨v3, _, rfl, HS.out, O3, R3, G3⟩
        · obtain rfl : L = 0 := by omega
          go_wp2_with fail
          go_ret
          exact ⟨_, ts, rfl, hsm.out.1, HO2.out, HR2.out, G2⟩
open Go.RowKit Go.WideShapes
instance triList (ts us : List Tri3) : Decidable (ts = us) := decidable_of_iff (ts.length = us.length ∧ ∀ i, i < ts.length → ts[i]? = us[i]?) ⟨fun ⟨h, g⟩ => List.ext_getElem? fun i => by
  rcases Nat.lt_or_ge i ts.length with c | c
  · exact g i c
  · rw [List.getElem?_eq_none c, List.getElem?_eq_none (by omega)], fun h => by subst h; exact ⟨rfl, fun _ _ => rfl⟩⟩
def inAll (ts us : List Tri3) : Bool := ts.all (fun t => decide (t ∈ us))
open Go.RowKit Go.WideShapes
/-- A slice of triples of a bounded length, short texts each, at a block's own place. -/
def GotG (w : World) (v : Value) (ts : List Tri3) : Prop := ∃ x cap, v = .slice x ts.length cap ∧ IsTris w x ts.length cap ts ∧ Plain x ∧ SmG ts
theorem GotG.next {w w' : World} {v : Value} {ts : List Tri3} (h : GotG w v ts) (hb : Below w.heap.size w w') : GotG w' v ts := by
  obtain ⟨x, cap, hv, hi, hp, hs⟩ := h
  exact ⟨x, cap, hv, hi.next hb, hp, hs⟩
theorem got_of {B : Nat} {w : World} {v : Value} {ts : List Tri3} (h : OwnT B w v ts) (hs : SmG ts) : GotG w v ts := by
  obtain ⟨x, cap, hv, hi, hp⟩ := OwnT.plain h hs.maxLen
  exact ⟨x, cap, hv, hi, hp, hs⟩
theorem SmG.less {ts : List Tri3} {t : Tri3} (h : SmG ts) : SmG ((withoutT ts t).getD []) := by
  cases e : withoutT ts t with
  | none => exact ⟨by simp, by simp⟩
  | some g =>
    obtain ⟨_, _, rfl, hg⟩ := withoutT_some e
    have hl := graphOk_len hg
    exact ⟨by simp only [Option.getD_some]; omega, fun u hu => h.2 u (lessT_mem.1 hu).2⟩
def GotRes (r : Option (List Tri3)) (w : World) (e : Ending) (w' : World) : Prop := ∃ z, e = .returned (.tuple #[z, .bool r.isSome]) ∧ GotG w' z (r.getD []) ∧ Below w.heap.size w w'
open Go.RowKit Go.WideShapes
end Go.Proofs.YtiajdnhmjdfeeaaGreat
