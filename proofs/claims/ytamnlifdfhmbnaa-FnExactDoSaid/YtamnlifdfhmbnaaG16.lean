/- A folder's files in order of their names: the program. -/
import Derived.Test.YtamnlifdfhmbnaaG14
import Derived.Test.YtamnlifdfhmbnaaG15
import Derived.Lib.Join
import Derived.Sort.EveryDepth
import Derived.StillTailTactics
import Derived.Deep.RegionHeld3
namespace Go.Proofs.Ytamnlifdfhmbnaa
open Go.RowKit Go.Maps Go.Sort Go.Shelf
theorem joinTail_nil (xs : List (List UInt8)) : Lib.joinTail [] xs = xs.flatten := by unfold Lib.joinTail; simp
theorem join_plain (xs : List (List UInt8)) : Lib.join xs [] = xs.flatten := by
  rcases xs with _ | ⟨x, r⟩
  · rfl
  · rw [Lib.join_cons, joinTail_nil]; rfl
theorem join_cat (ps : List ByteArray) : Lib.join (ps.map (·.data.toList)) [] = catT ps := by rw [join_plain]; unfold catT; rw [List.flatMap_def]
/-- A file's pieces, joined. -/
theorem implJoinPc {B : Nat} {w : World} {v : Value} {ps : List ByteArray} {d : ByteArray} (h : OwnS B w v ps) (hc : catT ps = d.data.toList) (hl : ps.length ≤ 1000000) (hd : d.size ≤ 200000) :
    Calls Try.prog 80 #[v, .string ⟨#[]⟩] w fun e w' => e = .returned (.string d) ∧ Below w.heap.size w w' := by
  obtain ⟨a, c, rfl, i⟩ := h.is
  by_cases h0 : ps.length = 0
  · rw [h0]
    refine (Try.strings_Join_none a c ⟨#[]⟩ w).mono fun e w' ⟨he, hw⟩ => ?_
    subst hw
    have : ps = [] := List.length_eq_zero_iff.1 h0
    subst this
    have e : d = ⟨#[]⟩ := nmP_inj hc.symm
    exact ⟨by rw [he, e], Below.refl _ _⟩
  · obtain ⟨b, off, rfl, hb, hcc, hm2, _, hcs⟩ := i.cells (by omega)
    have e : Lib.join (ps.map (·.data.toList)) (⟨#[]⟩ : ByteArray).data.toList = d.data.toList := (join_cat ps).trans hc
    refine (Try.strings_Join b off c ps ⟨#[]⟩ w hcs hb (by omega) hcc (by rw [e]; show d.size ≤ _; omega)).mono fun e' w' ⟨he, hw⟩ => ⟨?_, hw⟩
    rw [he, e]
theorem keysFol (b : Nat) (W : World) : Calls Try.prog 79 #[.map (some b)] W fun e w' =>
    e = .returned (.func (.func 99) #[] #[.pointer (some ⟨W.heap.size, 0, none⟩)]) ∧ w' = W.alloc (.cells #[.map (some b)] 70) :=
  (callsIn_wide (n := 5)).1 (AnyZ.keys_in Try.keysS Fence.wide 5 trivial rfl (some b) W)
theorem map_keysF {w : World} {b n : Nat} {D : DataW Value} {R : Value → Option (DataW Value × List MemPlace)} {kvs : List (Txt × Value)} {ts : List Txt} (hown : w.ownsMap Try.prog 9 R b n D) (hD : MapOfD D kvs) (hts : kvs.map Prod.fst = ts) : ts.Perm (strKeys D) := by
  subst hts
  exact Collected.perm (left := fun _ => false) ⟨hD.nodup, fun x => by have := hD.mem x; unfold litS at this; rw [this]; simp⟩ hown lawTxt Try.underlying9 (fun _ => rfl)
set_option maxHeartbeats 1000000 in
theorem sortedFol (b n : Nat) (kvs : List (Txt × Value)) (ts : List Txt) (w : World) (h : OwnMapD w b n kvs) (hts : kvs.map Prod.fst = ts) (ht : ts.length ≤ 1000000) :
    Calls Try.prog 78 #[.func (.func 99) #[] #[.pointer (some ⟨w.heap.size, 0, none⟩)]] (w.alloc (.cells #[.map (some b)] 70)) fun e w' =>
      ∃ v, e = .returned v ∧ OwnS w.heap.size w' v ((ts.mergeSort leB).map bs) ∧ Below w.heap.size w w' := by
  obtain ⟨D, hown, hD⟩ := h
  have hbl := hown.lt
  have hsz : Maps.size D = ts.length := by rw [hD.size, ← hts, List.length_map]
  have hseq : SeqGives Fence.wide 2 Try.prog 99 #[.pointer (some ⟨w.heap.size, 0, none⟩)] encStr (fun ss => ss.Perm (strKeys D)) (Maps.size D) (w.alloc (.cells #[.map (some b)] 70)) :=
    AnyZ.keys_gives (ρ := Try.keysS_ren) { Try.keysS with } Fence.wide _ trivial rfl (by omega) w.heap.size b n D _ (by simp) (by simp) (hown.alloc _)
  have hc := (callsIn_wide (n := 5)).1 (AnyZ.sorted_in Try.sortedS Fence.wide 5 trivial trivial trivial trivial rfl (by omega) (sortsTxt _) (enters_of Try.func98 (by kernel_rfl) rfl) 99 #[.pointer (some ⟨w.heap.size, 0, none⟩)] trivial (enters_of Try.func99 (by kernel_rfl) rfl) _ _ (by unfold maxLen; omega) (by omega) _ hseq)
  refine hc.mono ?_
  rintro e w' ⟨v, ss, rfl, hS, hrow, _, hb⟩
  have hp : ss.mergeSort leB = ts.mergeSort leB := mergeSort_of_perm (hS.trans (map_keysF hown hD hts).symm)
  have hl : ss.length = ((ts.mergeSort leB).map bs).length := by rw [List.length_map, ← hp, (List.mergeSort_perm ss leB).length_eq]
  refine ⟨v, rfl, ?_, ((Below.refl _ w).alloc (Nat.le_refl _) _).trans (hb.mono (by simp))⟩
  refine ownS_base (B := (w.alloc (.cells #[.map (some b)] 70)).heap.size) ?_ (by simp)
  have hv : ((ts.mergeSort leB).map bs).map strV = (ss.mergeSort leB).map encStr := by rw [hp, List.map_map]; rfl
  unfold OwnS
  rw [hv, ← hl]
  exact hrow
open Go.WideShapes
theorem totF_mem {P : List Pre2} {r : Pre2} (h : r ∈ P) : r.2.size ≤ totF P := by
  unfold totF
  induction P with
  | nil => simp at h
  | cons q P ih =>
    rcases List.mem_cons.1 h with rfl | h
    · simp
    · have := ih h; simp; omega
set_option maxRecDepth 100000 in
set_option maxHeartbeats 3200000 in
theorem implFiles (B m b n0 : Nat) (kvs : List (Txt × Value)) (P : List Pre2) (w : World) (hM : OwnMapD w b n0 kvs) (hF : FolIs B m w kvs P) (hR : RisP P) (hfit : fitsF P = true) (hm : m ≤ 1000000) (hsz : ∀ r ∈ P, r.1.size ≤ maxLen) :
    Calls Try.prog 44 #[.map (some b)] w fun e w' => ∃ v, e = .returned v ∧ OwnPFi w.heap.size w' v P ∧ Below w.heap.size w w' := by
  obtain ⟨hP60, hPt⟩ := fitsF_iff.1 hfit
  have hms : (kvs.map Prod.fst).mergeSort leB = P.map nmP := mergeSort_is hM.nodup (risP_keys.2 hR) hF.1
  have hkl : (kvs.map Prod.fst).length = P.length := by
    have := congrArg List.length hms
    rw [(List.mergeSort_perm _ leB).length_eq, List.length_map (f := nmP)] at this
    exact this
  obtain ⟨n, hn⟩ : ∃ n, P.length = n := ⟨_, rfl⟩
  have hn1 : n ≤ 60 := by rw [← hn]; exact hP60
  have HPL := Lib.hid hn
  have K1 := Lib.hid (keysFol b w)
  have K2 := Lib.hid (sortedFol b n0 _ _ w hM rfl (by rw [hkl]; omega))
  have HM := Lib.hid hM
  have HF := Lib.hid hF
  have HSZ := Lib.hid hsz
  have HMS := Lib.hid hms
  have HPT := Lib.hid hPt
  clear hkl hM hF hR hsz hms hn hP60 hPt hfit
  go_enter Try.func44, Try.ntmps44
  go_wp2_with fail
  refine K1.out.mono ?_
  rintro e w1 ⟨rfl, rfl⟩
  go_wp2_with fail
  refine K2.out.mono ?_
  rintro e w2 ⟨sv, rfl, os, hb2⟩
  rw [HMS.out] at os
  obtain ⟨sa, sc, rfl, _⟩ := os.is
  have hsl : ((P.map nmP).map bs).length = n := by rw [List.length_map, List.length_map, HPL.out]
  rw [hsl] at os ⊢
  have HS := Lib.hid os
  have O0 : Hid (OwnPFi w.heap.size w2 (.slice none 0 0) []) := Lib.hid (World.ownsRow_nil ..)
  have B0 : Below w.heap.size w w2 := hb2
  clear os hsl K1 K2 HMS
  go_wp2_with fail
  go_loopw [3, 10] (fun v' i wr => ∃ (k : Nat) (v : Value), k ≤ n ∧ i = .int .i64 k ∧ v = v' ∧ Hid (OwnPFi w.heap.size wr v (P.take k)) ∧ Hid (OwnS w.heap.size wr (.slice sa n sc) ((P.map nmP).map bs)) ∧ Hid (∀ j, v.ownBlock = some j → w.heap.size ≤ j ∧ (Value.slice sa n sc).ownBlock ≠ some j) ∧ Below w.heap.size w wr) (fun _ i _ => n - (intOf i).toNat)
  case atStart => exact ⟨0, _, Nat.zero_le _, rfl, rfl, O0, HS, Lib.hid (fun j hj => by simp [Value.ownBlock] at hj), B0⟩
  case round =>
    clear O0 B0 HS hb2
    obtain ⟨k, v, hk, rfl, rfl, HO, HS, HFA, hnx⟩ := hrel
    by_cases hlt : k < n
    · have hkP : k < P.length := by rw [HPL.out]; exact hlt
      obtain ⟨sa', sc', hse, hss⟩ := HS.out.is
      rw [List.length_map, List.length_map, HPL.out] at hse hss
      cases hse
      obtain ⟨g, off, rfl, hgb, _, _, hts, hc⟩ := hss.cells (by omega)
      have ht : P[k]? = some (P[k]'hkP) := List.getElem?_eq_getElem _
      have HK : Hid (P.take (k + 1) = P.take k ++ [P[k]'hkP]) := Lib.hid (List.take_succ_eq_append_getElem _)
      have c0 := hc k (bs (nmP (P[k]'hkP))) (by rw [List.getElem?_map, List.getElem?_map, ht]; rfl)
      have hpm : P[k]'hkP ∈ P := List.getElem_mem hkP
      have htm := HSZ.out _ hpm
      have hdz := totF_mem hpm
      obtain ⟨u, ps, hkv, ou, hcat, hpl⟩ := (HF.out.next hnx).2.1 _ hpm
      generalize P[k]'hkP = t at HK c0 ht hpm htm hkv ou hcat hdz
      obtain ⟨s, d⟩ := t
      have ebs : bs (nmP (s, d)) = s := bs_of s
      rw [ebs] at c0
      simp only at htm hcat hdz
      have HKV : Hid ((s.data.toList, u) ∈ kvs ∨ (s.data.toList ∉ kvs.map Prod.fst ∧ u = .slice none 0 0)) := Lib.hid (.inl hkv)
      have MM := Lib.hid (HM.out.next hnx)
      have JN := Lib.hid (fun W (hW : Below wr.heap.size wr W) => implJoinPc (ou.kept hW) hcat (by omega) (by have := HPT.out; omega))
      have hlen1 : (P.take k).length ≤ 1048576 := by rw [List.length_take]; omega
      have hk6 : (0 : Int) ≤ (k : Int) := by omega
      have hk7 : (k : Int) < (n : Int) := by omega
      clear hts hc ht hpm hkv ou hss ebs hcat hpl hdz
      go_wp2_with (at_lookup; refine wpList_lookF _ rfl _ _ rfl b n0 kvs rfl MM.out s htm u HKV.out rfl ?_)
      refine (JN.out _ (Below.refl _ _)).mono ?_
      rintro e w3 ⟨rfl, hb3⟩
      have bLa : Below w3.heap.size w3 (w3.alloc (.cells #[.string s, .string d] 74)) := (Below.refl _ _).alloc (Nat.le_refl _) _
      have N3 := hnx.trans (hb3.mono hnx.size)
      have N4 := N3.trans (bLa.mono N3.size)
      have hBa : w.heap.size ≤ (w3.alloc (.cells #[.string s, .string d] 74)).heap.size := N4.size
      have X := cells_new w3 #[.string s, .string d] 74
      have O4 : Hid (OwnPFi w.heap.size (w3.alloc (.cells #[.string s, .string d] 74)) v (P.take k)) := Lib.hid ((World.ownsRow.kept (World.ownsRow.kept HO.out (grown_of_below hb3) (by rcases hv : v.ownBlock with _ | i; exact .inl rfl; exact .inr (by simp))) (grown_of_below bLa) (by rcases hv : v.ownBlock with _ | i; exact .inl rfl; exact .inr (by simp))))
      have S4 : Hid (OwnS w.heap.size (w3.alloc (.cells #[.string s, .string d] 74)) (.slice (some ⟨g, off, none⟩) n sc) ((P.map nmP).map bs)) := Lib.hid ((HS.out.kept hb3).kept bLa)
      have qa : (w3.alloc (.cells #[.string s, .string d] 74)).cell? ⟨w3.heap.size, 0, none⟩ = some (.string s) ∧ (w3.alloc (.cells #[.string s, .string d] 74)).cell? ⟨w3.heap.size, 1, none⟩ = some (.string d) := ⟨X.now.at 0, X.now.at 1⟩
      have HN4 := Lib.hid N4
      have HW3 : Hid (w.heap.size ≤ w3.heap.size) := Lib.hid N3.size
      clear hb3 HO HS hnx X bLa N3 N4 MM JN
      go_wp2_with (at_builtin; go_loud (refine wpList_moreFi (B := w.heap.size) (t := (s, d)) rfl _ _ rfl rfl O4.out hBa w3.heap.size rfl qa hlen1 ?_))
      intro v2 w5 o5 hg5 hat
      have O5 : Hid (OwnPFi w.heap.size w5 v2 (P.take (k + 1))) := Lib.hid (by rw [HK.out]; exact o5)
      have B5 : Below w.heap.size w w5 := HN4.out.grown hg5 HN4.out.size (fun j hj => (HFA.out j hj).1)
      have S5 : Hid (OwnS w.heap.size w5 (.slice (some ⟨g, off, none⟩) n sc) ((P.map nmP).map bs)) := Lib.hid (World.ownsRow.kept S4.out hg5 (.inr (fun e => (HFA.out _ e.symm).2 rfl)))
      have F5 : Hid (∀ j, v2.ownBlock = some j → w.heap.size ≤ j ∧ (Value.slice (some ⟨g, off, none⟩) n sc).ownBlock ≠ some j) := Lib.hid (fun j hj => by
        rcases hat with h | h
        · exact HFA.out j (h ▸ hj)
        · rw [h] at hj
          have h9 := Option.some.inj hj
          (try rw [World.size_alloc] at h9)
          refine ⟨by have := HW3.out; omega, fun e => ?_⟩
          have h8 := (World.ownsRow.lt S4.out j e).2
          (try rw [World.size_alloc] at h8)
          omega)
      clear o5 hg5 hat O4 S4 HFA qa hBa HN4
      go_wp2_with fail
      go_roundw
      case rel => exact ⟨k + 1, _, by omega, by go_num, rfl, O5, S5, F5, B5⟩
      case measure => simp [intOf]; omega
    · have HE : Hid (OwnPFi w.heap.size wr v P) := Lib.hid (by
        have := HO.out
        rwa [List.take_of_length_le (by rw [HPL.out]; omega)] at this)
      clear HO HS HFA
      go_wp2_with fail
      go_ret
      exact ⟨_, rfl, HE.out, hnx⟩
end Go.Proofs.Ytamnlifdfhmbnaa
/- The program's ops, kind by kind: is it right, does it find its file. -/
namespace Go.Proofs.Ytamnlifdfhmbnaa
open Go.RowKit Go.WideShapes Go.Maps
theorem noText {s : ByteArray} (h : s.size = 0) : s = ⟨#[]⟩ := nmP_inj (List.length_eq_zero_iff.1 h)
theorem someText {s : ByteArray} (h : ¬ s.size = 0) : ¬ s.toList = [] := by rw [ByteArray.toList_eq]; exact fun e => h (by show s.data.toList.length = 0; rw [e]; rfl)
theorem methA_right (v0 v1 v2 v3 : Value) (w : World) : (method 282 138 (.agg #[v0, v1, v2, v3]) "loop.example/g00420/impl.right").run Try.prog w = .ok (151, .agg #[v0, v1, v2, v3]) w := by kernel_rfl
theorem methA_finds (v0 v1 v2 v3 : Value) (w : World) : (method 282 138 (.agg #[v0, v1, v2, v3]) "loop.example/g00420/impl.finds").run Try.prog w = .ok (150, .agg #[v0, v1, v2, v3]) w := by kernel_rfl
theorem methA_doneOn (v0 v1 v2 v3 : Value) (w : World) : (method 282 138 (.agg #[v0, v1, v2, v3]) "loop.example/g00420/impl.doneOn").run Try.prog w = .ok (149, .agg #[v0, v1, v2, v3]) w := by kernel_rfl
theorem methR_right (v0 v1 v2 v3 : Value) (w : World) : (method 282 139 (.agg #[v0, v1, v2, v3]) "loop.example/g00420/impl.right").run Try.prog w = .ok (154, .agg #[v0, v1, v2, v3]) w := by kernel_rfl
theorem methR_finds (v0 v1 v2 v3 : Value) (w : World) : (method 282 139 (.agg #[v0, v1, v2, v3]) "loop.example/g00420/impl.finds").run Try.prog w = .ok (153, .agg #[v0, v1, v2, v3]) w := by kernel_rfl
theorem methR_doneOn (v0 v1 v2 v3 : Value) (w : World) : (method 282 139 (.agg #[v0, v1, v2, v3]) "loop.example/g00420/impl.doneOn").run Try.prog w = .ok (152, .agg #[v0, v1, v2, v3]) w := by kernel_rfl
theorem methM_right (v0 v1 v2 v3 : Value) (w : World) : (method 282 140 (.agg #[v0, v1, v2, v3]) "loop.example/g00420/impl.right").run Try.prog w = .ok (158, .agg #[v0, v1, v2, v3]) w := by kernel_rfl
theorem methM_finds (v0 v1 v2 v3 : Value) (w : World) : (method 282 140 (.agg #[v0, v1, v2, v3]) "loop.example/g00420/impl.finds").run Try.prog w = .ok (157, .agg #[v0, v1, v2, v3]) w := by kernel_rfl
theorem methM_doneOn (v0 v1 v2 v3 : Value) (w : World) : (method 282 140 (.agg #[v0, v1, v2, v3]) "loop.example/g00420/impl.doneOn").run Try.prog w = .ok (156, .agg #[v0, v1, v2, v3]) w := by kernel_rfl
set_option maxRecDepth 100000 in
set_option maxHeartbeats 1600000 in
theorem rightA (r : Int) (s t d : ByteArray) (hs : s.size ≤ maxLen) (ht : t.size ≤ maxLen) (w : World) :
    Calls Try.prog 151 #[.agg #[.int .i64 r, .string s, .string t, .string d]] w fun e w' => e = .returned (.bool (nmOk s && decide (t.size = 0))) ∧ Below w.heap.size w w' := by
  have B0 := (Below.refl w.heap.size w).alloc (Nat.le_refl _) (.cells #[.int .i64 r, .string s, .string t, .string d] 138)
  have X := cells_new w #[.int .i64 r, .string s, .string t, .string d] 138
  have x0 := X.now.at 0
  have x1 := X.now.at 1
  have x2 := X.now.at 2
  have x3 := X.now.at 3
  have HN := Lib.hid (implNameOk s hs)
  have HM := Lib.hid (implNameOk t ht)
  clear X
  cases q : nmOk s
  · rw [q] at HN
    have HR : Hid ((false && decide (t.size = 0)) = false) := Lib.hid (by rfl)
    go_enter Try.func151, Try.ntmps151
    go_wp2_with fail
    refine (HN.out _).mono ?_
    rintro e w1 ⟨rfl, rfl⟩
    go_wp2_with fail
    go_ret
    exact ⟨by rw [HR.out]; rfl, B0⟩
  · rw [q] at HN
    by_cases zt : t.size = 0
    · have et := decide_eq_true zt
      have HR : Hid ((true && decide (t.size = 0)) = true) := Lib.hid (by rw [et]; rfl)
      clear et
      obtain rfl := noText zt
      go_enter Try.func151, Try.ntmps151
      go_wp2_with fail
      refine (HN.out _).mono ?_
      rintro e w1 ⟨rfl, rfl⟩
      go_wp2_with fail
      go_ret
      exact ⟨by rw [HR.out]; rfl, B0⟩
    · have et := decide_eq_false zt
      have nt := someText zt
      have bt : (t.toList == []) = false := by simp [nt]
      have HR : Hid ((true && decide (t.size = 0)) = false) := Lib.hid (by rw [et]; rfl)
      clear et
      go_enter Try.func151, Try.ntmps151
      go_wp2_with fail
      refine (HN.out _).mono ?_
      rintro e w1 ⟨rfl, rfl⟩
      go_wp2_with fail
      go_ret
      exact ⟨by rw [HR.out]; rfl, B0⟩
set_option maxRecDepth 100000 in
set_option maxHeartbeats 1600000 in
theorem rightR (r : Int) (s t d : ByteArray) (hs : s.size ≤ maxLen) (ht : t.size ≤ maxLen) (w : World) :
    Calls Try.prog 154 #[.agg #[.int .i64 r, .string s, .string t, .string d]] w fun e w' => e = .returned (.bool (nmOk s && (nmOk t && decide (d.size = 0)))) ∧ Below w.heap.size w w' := by
  have B0 := (Below.refl w.heap.size w).alloc (Nat.le_refl _) (.cells #[.int .i64 r, .string s, .string t, .string d] 139)
  have X := cells_new w #[.int .i64 r, .string s, .string t, .string d] 139
  have x0 := X.now.at 0
  have x1 := X.now.at 1
  have x2 := X.now.at 2
  have x3 := X.now.at 3
  have HN := Lib.hid (implNameOk s hs)
  have HM := Lib.hid (implNameOk t ht)
  clear X
  cases q : nmOk s
  · rw [q] at HN
    have HR : Hid ((false && (nmOk t && decide (d.size = 0))) = false) := Lib.hid (by rfl)
    go_enter Try.func154, Try.ntmps154
    go_wp2_with fail
    refine (HN.out _).mono ?_
    rintro e w1 ⟨rfl, rfl⟩
    go_wp2_with fail
    go_ret
    exact ⟨by rw [HR.out]; rfl, B0⟩
  · rw [q] at HN
    cases qt : nmOk t
    · rw [qt] at HM
      have HR : Hid ((true && (false && decide (d.size = 0))) = false) := Lib.hid (by rfl)
      go_enter Try.func154, Try.ntmps154
      go_wp2_with fail
      refine (HN.out _).mono ?_
      rintro e w1 ⟨rfl, rfl⟩
      go_wp2_with fail
      refine (HM.out _).mono ?_
      rintro e w1 ⟨rfl, rfl⟩
      go_wp2_with fail
      go_ret
      exact ⟨by rw [HR.out]; rfl, B0⟩
    · rw [qt] at HM
      by_cases zd : d.size = 0
      · have ed := decide_eq_true zd
        have HR : Hid ((true && (true && decide (d.size = 0))) = true) := Lib.hid (by rw [ed]; rfl)
        clear ed
        obtain rfl := noText zd
        go_enter Try.func154, Try.ntmps154
        go_wp2_with fail
        refine (HN.out _).mono ?_
        rintro e w1 ⟨rfl, rfl⟩
        go_wp2_with fail
        refine (HM.out _).mono ?_
        rintro e w1 ⟨rfl, rfl⟩
        go_wp2_with fail
        go_ret
        exact ⟨by rw [HR.out]; rfl, B0⟩
      · have ed := decide_eq_false zd
        have nd := someText zd
        have bd : (d.toList == []) = false := by simp [nd]
        have HR : Hid ((true && (true && decide (d.size = 0))) = false) := Lib.hid (by rw [ed]; rfl)
        clear ed
        go_enter Try.func154, Try.ntmps154
        go_wp2_with fail
        refine (HN.out _).mono ?_
        rintro e w1 ⟨rfl, rfl⟩
        go_wp2_with fail
        refine (HM.out _).mono ?_
        rintro e w1 ⟨rfl, rfl⟩
        go_wp2_with fail
        go_ret
        exact ⟨by rw [HR.out]; rfl, B0⟩
set_option maxRecDepth 100000 in
set_option maxHeartbeats 1600000 in
theorem rightM (r : Int) (s t d : ByteArray) (hs : s.size ≤ maxLen) (ht : t.size ≤ maxLen) (w : World) :
    Calls Try.prog 158 #[.agg #[.int .i64 r, .string s, .string t, .string d]] w fun e w' => e = .returned (.bool (nmOk s && (decide (t.size = 0) && decide (d.size = 0)))) ∧ Below w.heap.size w w' := by
  have B0 := (Below.refl w.heap.size w).alloc (Nat.le_refl _) (.cells #[.int .i64 r, .string s, .string t, .string d] 140)
  have X := cells_new w #[.int .i64 r, .string s, .string t, .string d] 140
  have x0 := X.now.at 0
  have x1 := X.now.at 1
  have x2 := X.now.at 2
  have x3 := X.now.at 3
  have HN := Lib.hid (implNameOk s hs)
  have HM := Lib.hid (implNameOk t ht)
  clear X
  cases q : nmOk s
  · rw [q] at HN
    have HR : Hid ((false && (decide (t.size = 0) && decide (d.size = 0))) = false) := Lib.hid (by rfl)
    go_enter Try.func158, Try.ntmps158
    go_wp2_with fail
    refine (HN.out _).mono ?_
    rintro e w1 ⟨rfl, rfl⟩
    go_wp2_with fail
    go_ret
    exact ⟨by rw [HR.out]; rfl, B0⟩
  · rw [q] at HN
    by_cases zt : t.size = 0
    · have et := decide_eq_true zt
      by_cases zd : d.size = 0
      · have ed := decide_eq_true zd
        have HR : Hid ((true && (decide (t.size = 0) && decide (d.size = 0))) = true) := Lib.hid (by rw [et, ed]; rfl)
        clear et ed
        obtain rfl := noText zt
        obtain rfl := noText zd
        go_enter Try.func158, Try.ntmps158
        go_wp2_with fail
        refine (HN.out _).mono ?_
        rintro e w1 ⟨rfl, rfl⟩
        go_wp2_with fail
        go_ret
        exact ⟨by rw [HR.out]; rfl, B0⟩
      · have ed := decide_eq_false zd
        have nd := someText zd
        have bd : (d.toList == []) = false := by simp [nd]
        have HR : Hid ((true && (decide (t.size = 0) && decide (d.size = 0))) = false) := Lib.hid (by rw [et, ed]; rfl)
        clear et ed
        obtain rfl := noText zt
        go_enter Try.func158, Try.ntmps158
        go_wp2_with fail
        refine (HN.out _).mono ?_
        rintro e w1 ⟨rfl, rfl⟩
        go_wp2_with fail
        go_ret
        exact ⟨by rw [HR.out]; rfl, B0⟩
    · have et := decide_eq_false zt
      have nt := someText zt
      have bt : (t.toList == []) = false := by simp [nt]
      have HR : Hid ((true && (decide (t.size = 0) && decide (d.size = 0))) = false) := Lib.hid (by rw [et]; rfl)
      clear et
      go_enter Try.func158, Try.ntmps158
      go_wp2_with fail
      refine (HN.out _).mono ?_
      rintro e w1 ⟨rfl, rfl⟩
      go_wp2_with fail
      go_ret
      exact ⟨by rw [HR.out]; rfl, B0⟩
set_option maxRecDepth 100000 in
theorem findsA (r : Int) (s t d : ByteArray) (m : Value) (w : World) :
    Calls Try.prog 150 #[.agg #[.int .i64 r, .string s, .string t, .string d], m] w fun e w' => e = .returned (.bool true) ∧ Below w.heap.size w w' := by
  have B0 := (Below.refl w.heap.size w).alloc (Nat.le_refl _) (.cells #[.int .i64 r, .string s, .string t, .string d] 138)
  go_enter Try.func150, Try.ntmps150
  go_wp2_with fail
  go_ret
  exact ⟨rfl, B0⟩
set_option maxRecDepth 100000 in
theorem findsR (r : Int) (s t d : ByteArray) (b n : Nat) (kvs : List (Txt × Value)) (hs : s.size ≤ maxLen) (w : World) (h : OwnMapD w b n kvs) :
    Calls Try.prog 153 #[.agg #[.int .i64 r, .string s, .string t, .string d], .map (some b)] w fun e w' => e = .returned (.bool (decide (s.data.toList ∈ kvs.map Prod.fst))) ∧ Below w.heap.size w w' := by
  have B0 := (Below.refl w.heap.size w).alloc (Nat.le_refl _) (.cells #[.int .i64 r, .string s, .string t, .string d] 139)
  have X := cells_new w #[.int .i64 r, .string s, .string t, .string d] 139
  have x0 := X.now.at 0
  have x1 := X.now.at 1
  have x2 := X.now.at 2
  have x3 := X.now.at 3
  have HH := Lib.hid (implHas b n kvs s hs _ (h.next B0))
  clear X h
  go_enter Try.func153, Try.ntmps153
  go_wp2_with fail
  refine HH.out.mono ?_
  rintro e w1 ⟨rfl, rfl⟩
  go_wp2_with fail
  go_ret
  exact ⟨rfl, B0⟩
set_option maxRecDepth 100000 in
theorem findsM (r : Int) (s t d : ByteArray) (b n : Nat) (kvs : List (Txt × Value)) (hs : s.size ≤ maxLen) (w : World) (h : OwnMapD w b n kvs) :
    Calls Try.prog 157 #[.agg #[.int .i64 r, .string s, .string t, .string d], .map (some b)] w fun e w' => e = .returned (.bool (decide (s.data.toList ∈ kvs.map Prod.fst))) ∧ Below w.heap.size w w' := by
  have B0 := (Below.refl w.heap.size w).alloc (Nat.le_refl _) (.cells #[.int .i64 r, .string s, .string t, .string d] 140)
  have X := cells_new w #[.int .i64 r, .string s, .string t, .string d] 140
  have x0 := X.now.at 0
  have x1 := X.now.at 1
  have x2 := X.now.at 2
  have x3 := X.now.at 3
  have HH := Lib.hid (implHas b n kvs s hs _ (h.next B0))
  clear X h
  go_enter Try.func157, Try.ntmps157
  go_wp2_with fail
  refine HH.out.mono ?_
  rintro e w1 ⟨rfl, rfl⟩
  go_wp2_with fail
  go_ret
  exact ⟨rfl, B0⟩
end Go.Proofs.Ytamnlifdfhmbnaa
/- What the program's ops do to its folder, kind by kind. -/
namespace Go.Proofs.Ytamnlifdfhmbnaa
open Go.RowKit Go.WideShapes Go.Maps
theorem lookF_run (w : World) (b n : Nat) (kvs : List (Txt × Value)) (h : OwnMapD w b n kvs) (t : ByteArray) (ht : t.size ≤ maxLen) (u : Value) (hu : (t.data.toList, u) ∈ kvs ∨ (t.data.toList ∉ kvs.map Prod.fst ∧ u = .slice none 0 0)) :
    (Instr.lookup 70 (.map (some b)) (.string t) false).run Try.prog w = .ok u w := by
  obtain ⟨D, hown, hD⟩ := h
  obtain ⟨v, ps, hrun, hv⟩ := hown.lookup lawTxt Try.underlying70 (zeroSl w) (rfl : valD (.slice none 0 0) = some (.held (.slice none 0 0), [])) (Go.WideMaps.keyOf_string_mk Try.underlying9 ht)
  have e : v = u := by
    rcases hu with hu | ⟨hu, rfl⟩
    · have hl := hD.val _ hu (.held (.slice none 0 0))
      unfold litS at hl
      rw [hl] at hv
      unfold valD at hv
      simp only [Option.some.injEq, Prod.mk.injEq, DataW.held.injEq] at hv
      exact hv.1
    · have hn : Maps.has D (litS t.data.toList) = false := by rw [hD.mem, decide_eq_false hu]
      have hl := atKey_of_not_has hn (.held (.slice none 0 0))
      unfold litS at hl
      rw [hl] at hv
      unfold valD at hv
      simp only [Option.some.injEq, Prod.mk.injEq, DataW.held.injEq] at hv
      exact hv.1
  rw [← e]; exact hrun
/-- What stands at a name: its pieces, or none. -/
theorem FolIs.get {B m : Nat} {w : World} {kvs : List (Txt × Value)} {P : List Pre2} (h : FolIs B m w kvs P) (s : ByteArray) : ∃ u ps, ((s.data.toList, u) ∈ kvs ∨ (s.data.toList ∉ kvs.map Prod.fst ∧ u = .slice none 0 0)) ∧ OwnS B w u ps ∧ catT ps = (dataAt P s).data.toList ∧ ps.length ≤ m ∧ (atF P s = none → u = .slice none 0 0) := by
  rcases e : atF P s with _ | d
  · exact ⟨.slice none 0 0, [], .inr ⟨h.no e, rfl⟩, World.ownsRow_nil .., by unfold dataAt; rw [e]; rfl, Nat.zero_le _, fun _ => rfl⟩
  · obtain ⟨u, ps, h1, h2, h3, h4⟩ := h.at e
    exact ⟨u, ps, .inl h1, h2, by unfold dataAt; rw [e]; exact h3, h4, fun q => by cases q⟩
/-- Nobody else's block. -/
theorem FolIs.apart {B m : Nat} {w : World} {kvs : List (Txt × Value)} {P : List Pre2} (h : FolIs B m w kvs P) {s : Txt} {u : Value} (hu : (s, u) ∈ kvs ∨ (s ∉ kvs.map Prod.fst ∧ u = .slice none 0 0)) {p : Txt × Value} (hp : p ∈ kvs) (hn : p.1 ≠ s) : ∀ j, p.2.ownBlock = some j → u.ownBlock ≠ some j := by
  rcases hu with hu | ⟨_, rfl⟩
  · exact h.2.2 p hp (s, u) hu hn
  · intro j _ e
    simp [Value.ownBlock] at e
/-- What is left of a folder in memory behind an op. -/
def DonePost (B m b n : Nat) (P : List Pre2) (w : World) (e : Ending) (w' : World) : Prop :=
  (∃ v, e = .returned v) ∧ ∃ kvs, (OwnMapD w' b n kvs ∧ FolIs B m w' kvs P) ∧ Below B w w'
set_option maxRecDepth 100000 in
set_option maxHeartbeats 3200000 in
theorem doneA (r : Int) (s t d : ByteArray) (B m b n : Nat) (kvs : List (Txt × Value)) (P : List Pre2) (hs : s.size ≤ maxLen) (w : World) (hM : OwnMapD w b n kvs) (hF : FolIs B m w kvs P) (hB : B ≤ b) (hn : n ≤ 1000000) (hm : m ≤ 1000000) :
    Calls Try.prog 149 #[.agg #[.int .i64 r, .string s, .string t, .string d], .map (some b)] w (DonePost B (m + 1) b (n + 1) (putF P (s, dataAt P s ++ d)) w) := by
  have B0 := (Below.refl w.heap.size w).alloc (Nat.le_refl _) (.cells #[.int .i64 r, .string s, .string t, .string d] 138)
  have X := cells_new w #[.int .i64 r, .string s, .string t, .string d] 138
  have hbl := hM.lt
  have HM := Lib.hid (hM.next B0)
  have HF := Lib.hid (hF.next B0)
  obtain ⟨u, ps, hu, ou, hcat, hpl, _⟩ := hF.get s
  have HUL := Lib.hid (World.ownsRow.lt ou)
  have HU := Lib.hid hu
  have HO := Lib.hid (ou.kept B0)
  have HC := Lib.hid hcat
  have HX := Lib.hid X
  have HB := Lib.hid B0
  have x1 := X.now.at 1
  have x3 := X.now.at 3
  have hn1 : n < maxLen := by unfold maxLen; omega
  clear hM hF B0 hu ou hcat X
  go_enter Try.func149, Try.ntmps149
  go_wp2_with fail
  generalize hV : w.alloc (.cells #[.int .i64 r, .string s, .string t, .string d] 138) = V at HM HF HO HX HB x1 x3 ⊢
  clear hV
  have hwV : w.heap.size < V.heap.size := HX.out.le
  refine wp_region_held_drew (S := (fun w' => w'.cell? ⟨w.heap.size, 1, none⟩ = some (.string s) ∧ w'.cell? ⟨w.heap.size, 3, none⟩ = some (.string d))) (by kernel_rfl) ?_ (fun hHeld => ?_)
  · exact ⟨x1, x3⟩
  refine wpAnyH_take (i := 0) (v := ?_) rfl (by kernel_rfl) (by kernel_rfl) (by kernel_rfl) (fun _ _ _ h => h) (Or.inl ⟨by kernel_rfl, ?_⟩) (by assumption) ?_
  rotate_left
  · intro w hSw; (try dsimp only at hSw); go_simp; try with_reducible rfl
  refine wpAnyH_take (i := 1) (v := ?_) rfl (by kernel_rfl) (by kernel_rfl) (by kernel_rfl) (fun _ _ _ h => h) (Or.inl ⟨by kernel_rfl, ?_⟩) (by assumption) ?_
  rotate_left
  · intro w hSw; (try dsimp only at hSw); go_simp; try with_reducible rfl
  refine wpAnyH_take (i := 2) (v := ?_) rfl (by kernel_rfl) (by kernel_rfl) (by kernel_rfl) (fun _ _ _ h => h) (Or.inl ⟨by kernel_rfl, ?_⟩) (by assumption) ?_
  rotate_left
  · intro w hSw; (try dsimp only at hSw); go_simp; try with_reducible rfl
  refine wpAnyH_take (i := 3) (v := ?_) rfl (by kernel_rfl) (by kernel_rfl) (by kernel_rfl) (fun _ _ _ h => h) (Or.inl ⟨by kernel_rfl, ?_⟩) (by assumption) ?_
  rotate_left
  · intro w hSw; (try dsimp only at hSw); go_simp; try with_reducible rfl
  refine wpAnyH_take (i := 4) (v := ?_) rfl (by kernel_rfl) (by kernel_rfl) (by kernel_rfl) (fun _ _ _ h => h) (Or.inl ⟨by kernel_rfl, ?_⟩) (by assumption) ?_
  rotate_left
  · intro w hSw; (try dsimp only at hSw); go_simp; try with_reducible rfl
  refine wpAnyH_take (i := 5) (v := ?_) rfl (by kernel_rfl) (by kernel_rfl) (by kernel_rfl) (fun _ _ _ h => h) (Or.inl ⟨by kernel_rfl, ?_⟩) (by assumption) ?_
  rotate_left
  · intro w hSw; (try dsimp only at hSw); go_simp; try with_reducible rfl
  refine wpAnyH_take (i := 6) (v := ?_) rfl (by kernel_rfl) (by kernel_rfl) (by kernel_rfl) (fun _ _ _ h => h) (Or.inl ⟨by kernel_rfl, ?_⟩) (by assumption) ?_
  rotate_left
  · intro w hSw; (try dsimp only at hSw); go_simp; try with_reducible rfl
  refine wpAnyH_take (i := 7) (v := ?_) rfl (by kernel_rfl) (by kernel_rfl) (by kernel_rfl) (fun _ _ _ h => h) (Or.inl ⟨by kernel_rfl, ?_⟩) (by assumption) ?_
  rotate_left
  · intro w hSw; (try dsimp only at hSw); go_simp; try with_reducible rfl
  refine wpAnyH_take (i := 9) (v := ?_) rfl (by kernel_rfl) (by kernel_rfl) (by kernel_rfl) (fun _ _ _ h => h) (Or.inl ⟨by kernel_rfl, ?_⟩) (by assumption) ?_
  rotate_left
  · intro w hSw; (try dsimp only at hSw); go_simp; try with_reducible rfl
  refine wpAnyH_take (i := 10) (v := ?_) rfl (by kernel_rfl) (by kernel_rfl) (by kernel_rfl) (fun _ _ _ h => h) (Or.inl ⟨by kernel_rfl, ?_⟩) (by assumption) ?_
  rotate_left
  · intro w hSw; (try dsimp only at hSw); go_simp; try with_reducible rfl
  refine wpAnyH_take (i := 11) (v := ?_) rfl (by kernel_rfl) (by kernel_rfl) (by kernel_rfl) (fun _ _ _ h => h) (Or.inl ⟨by kernel_rfl, ?_⟩) (by assumption) ?_
  rotate_left
  · intro w hSw; (try dsimp only at hSw); go_simp; try with_reducible rfl
  clear hHeld x1 x3
  have bQ : Below V.heap.size V (World.drew (V.alloc (.cells #[.string d] 9))) := ((Below.refl _ _).alloc (Nat.le_refl _) _).drew
  have XQ := Lib.hid (HX.out.next bQ)
  have q0 : (World.drew (V.alloc (.cells #[.string d] 9))).cell? ⟨V.heap.size, 0, none⟩ = some (.string d) := (cells_new V #[.string d] 9).drew.now.at 0
  have MQ := Lib.hid (HM.out.next bQ)
  refine wpAnyH_ready (rs := [8, 12]) (by kernel_rfl) (by simp) ?_
  try simp only [Act.put, List.setIfInBounds_toArray, List.set_cons_zero, List.set_cons_succ, List.getElem_toArray, List.getElem_cons_zero, List.getElem_cons_succ]
  refine AllReadyH.cons rfl (fun K hK => ?_) ?_
  · rw [if_pos (by rfl)]
    refine upon_lookF _ _ _ (by rfl) b n kvs (by rfl) HM.out.drew s hs u HU.out (by rfl) ?_
    refine hK.out _ _ ?_ (fun hHeld => ?_)
    · exact ⟨HX.out.now.at 1, HX.out.now.at 3⟩
    clear hK K
    refine wpAnyH_ready (rs := [12]) (by kernel_rfl) (by simp) ?_
    refine AllReadyH.cons rfl (fun K hK => ?_) AllReadyH.nil
    go_simp
    refine hK.out _ _ ?_ (fun hHeld => ?_)
    · exact ⟨XQ.out.now.at 1, XQ.out.now.at 3⟩
    clear hK K
    generalize hQ : World.drew (V.alloc (.cells #[.string d] 9)) = Q at bQ XQ q0 MQ ⊢
    clear hQ
    refine wpAnyH_ready (rs := [13]) (by kernel_rfl) (by simp) ?_
    refine AllReadyH.cons rfl (fun K hK => ?_) AllReadyH.nil
    rw [if_pos (by rfl)]
    have hB3 : B ≤ Q.heap.size := by have := bQ.size; omega
    refine upon_morePc _ _ (by rfl) (by rfl) (HO.out.kept bQ) hB3 V.heap.size (by rfl) q0 (by omega) ?_
    intro v2 w3 o3 g3 hat
    have n3 : Below B Q w3 := (Below.refl B Q).grown g3 hB3 (fun j hj => (HUL.out j hj).1)
    have X3 := XQ.out.step (Turn.of_grown (D := B) (E := w.heap.size) g3 (fun j hj => HUL.out j hj)) (.inr (Nat.le_refl _))
    have hub : u.ownBlock = none ∨ u.ownBlock ≠ some b := Fol.row_no_map HO.out HM.out.isMap
    have M3 := MQ.out.kept g3 (fun e => by rcases hub with h | h; rw [h] at e; cases e; exact h e.symm)
    have FQ := HF.out.next bQ
    have hvb : ∀ j, v2.ownBlock = some j → u.ownBlock = some j ∨ V.heap.size ≤ j := by
      intro j hj
      rcases hat with h | h
      · exact .inl (h ▸ hj)
      · rw [h] at hj; have h9 := Option.some.inj hj; have := bQ.size; exact .inr (by omega)
    have F3 : FolIs B (m + 1) w3 (addD kvs s.data.toList v2) (putF P (s, dataAt P s ++ d)) := by
      have hnd := MQ.out.nodup
      have hmv : ∀ p ∈ kvs, p.1 ≠ s.data.toList → ∀ qs, OwnS B Q p.2 qs → OwnS B w3 p.2 qs := fun p hp hne qs hq => World.ownsRow.kept hq g3 (by
        rcases hv : p.2.ownBlock with _ | j
        · exact .inl rfl
        · exact .inr (fun e => HF.out.apart HU.out hp hne j hv e.symm))
      refine ⟨fun t => ?_, fun r hr => ?_, fun p hp q hq hpq j hj e => ?_⟩
      · rw [addD_keys, addS_mem, FQ.1]
        constructor
        · rintro (ht | rfl)
          · obtain ⟨r, hr, rfl⟩ := List.mem_map.1 ht
            by_cases es : r.1 = s
            · exact List.mem_map.2 ⟨_, putF_mem.2 (.inl rfl), by simp [nmP, es]⟩
            · exact List.mem_map.2 ⟨r, putF_mem.2 (.inr ⟨hr, es⟩), rfl⟩
          · exact List.mem_map.2 ⟨_, putF_mem.2 (.inl rfl), rfl⟩
        · intro ht
          obtain ⟨r, hr, rfl⟩ := List.mem_map.1 ht
          rcases putF_mem.1 hr with rfl | ⟨hr, _⟩
          · exact .inr rfl
          · exact .inl (List.mem_map.2 ⟨r, hr, rfl⟩)
      · rcases putF_mem.1 hr with rfl | ⟨hr, hne⟩
        · refine ⟨v2, _, Fol.addD_self, o3, ?_, by rw [List.length_append, List.length_singleton]; omega⟩
          rw [catT_snoc, HC.out, ByteArray.data_append, Array.toList_append]
        · obtain ⟨x, qs, h1, h2, h3, h4⟩ := FQ.2.1 r hr
          have hne' : nmP r ≠ s.data.toList := fun e => hne (nmP_inj e)
          exact ⟨x, qs, Fol.addD_old h1 hne', hmv _ h1 hne' qs h2, h3, by omega⟩
      · have hfar : ∀ p ∈ kvs, p.1 ≠ s.data.toList → ∀ j, p.2.ownBlock = some j → v2.ownBlock ≠ some j := by
          intro p hp hne j hj e
          rcases hvb j e with h | h
          · exact HF.out.apart HU.out hp hne j hj h
          · have := (HF.out.lt HM.out.nodup hp hj).2; omega
        rcases addD_mem hp with rfl | ⟨hn, hp⟩
        · rcases addD_mem hq with rfl | ⟨hn, hq⟩
          · exact hpq rfl
          · exact hfar q hq hn j e hj
        · rcases addD_mem hq with rfl | ⟨hn', hq⟩
          · exact hfar p hp hn j hj e
          · exact FQ.2.2 p hp q hq hpq j hj e
    refine hK.out _ _ ?_ (fun hHeld => ?_)
    · exact ⟨X3.now.at 1, X3.now.at 3⟩
    clear hK K
    refine wpAnyH_ready (rs := [14]) (by kernel_rfl) (by simp) ?_
    refine AllReadyH.cons rfl (fun K hK => ?_) AllReadyH.nil
    rw [if_pos (by rfl)]
    refine upon_putF _ _ _ _ (by rfl) b n kvs (by rfl) M3 hn1 s hs (by rfl) v2 (by rfl) ?_
    intro w4 M4 g4
    have X4 := X3.step (Turn.of_grown (D := b) (E := w.heap.size) g4 (fun j hj => by cases hj; exact ⟨Nat.le_refl _, hbl⟩)) (.inr (Nat.le_refl _))
    have F4 := F3.update g4 M3.isMap
    have n4 : Below B w w4 := (((HB.out.trans (bQ.mono (by omega))).mono (by omega)).trans n3).grown g4 (by have := n3.size; have := bQ.size; omega) (fun j hj => by cases hj; exact hB)
    have HP : Hid (DonePost B (m + 1) b (n + 1) (putF P (s, dataAt P s ++ d)) w (.returned (.tuple #[])) w4) := Lib.hid ⟨⟨_, rfl⟩, _, ⟨M4, F4⟩, n4⟩
    refine hK.out _ _ ?_ (fun hHeld => ?_)
    · exact ⟨X4.now.at 1, X4.now.at 3⟩
    clear hK K M3 F3 g3 g4 F4 M4 n4 n3 hvb hat o3
    refine wpAnyH_done (by kernel_rfl) ?_ _
    try simp only [Act.put, List.setIfInBounds_toArray, List.set_cons_zero, List.set_cons_succ, List.getElem_toArray, List.getElem_cons_zero, List.getElem_cons_succ]
    go_wp2_with fail
    go_end0
    exact HP.out
  · refine AllReadyH.cons rfl (fun K hK => ?_) AllReadyH.nil
    go_simp
    refine hK.out _ _ ?_ (fun hHeld => ?_)
    · exact ⟨XQ.out.now.at 1, XQ.out.now.at 3⟩
    clear hK K
    refine wpAnyH_ready (rs := [8]) (by kernel_rfl) (by simp) ?_
    refine AllReadyH.cons rfl (fun K hK => ?_) AllReadyH.nil
    rw [if_pos (by rfl)]
    refine upon_lookF _ _ _ (by rfl) b n kvs (by rfl) MQ.out s hs u HU.out (by rfl) ?_
    refine hK.out _ _ ?_ (fun hHeld => ?_)
    · exact ⟨XQ.out.now.at 1, XQ.out.now.at 3⟩
    clear hK K
    generalize hQ : World.drew (V.alloc (.cells #[.string d] 9)) = Q at bQ XQ q0 MQ ⊢
    clear hQ
    refine wpAnyH_ready (rs := [13]) (by kernel_rfl) (by simp) ?_
    refine AllReadyH.cons rfl (fun K hK => ?_) AllReadyH.nil
    rw [if_pos (by rfl)]
    have hB3 : B ≤ Q.heap.size := by have := bQ.size; omega
    refine upon_morePc _ _ (by rfl) (by rfl) (HO.out.kept bQ) hB3 V.heap.size (by rfl) q0 (by omega) ?_
    intro v2 w3 o3 g3 hat
    have n3 : Below B Q w3 := (Below.refl B Q).grown g3 hB3 (fun j hj => (HUL.out j hj).1)
    have X3 := XQ.out.step (Turn.of_grown (D := B) (E := w.heap.size) g3 (fun j hj => HUL.out j hj)) (.inr (Nat.le_refl _))
    have hub : u.ownBlock = none ∨ u.ownBlock ≠ some b := Fol.row_no_map HO.out HM.out.isMap
    have M3 := MQ.out.kept g3 (fun e => by rcases hub with h | h; rw [h] at e; cases e; exact h e.symm)
    have FQ := HF.out.next bQ
    have hvb : ∀ j, v2.ownBlock = some j → u.ownBlock = some j ∨ V.heap.size ≤ j := by
      intro j hj
      rcases hat with h | h
      · exact .inl (h ▸ hj)
      · rw [h] at hj; have h9 := Option.some.inj hj; have := bQ.size; exact .inr (by omega)
    have F3 : FolIs B (m + 1) w3 (addD kvs s.data.toList v2) (putF P (s, dataAt P s ++ d)) := by
      have hnd := MQ.out.nodup
      have hmv : ∀ p ∈ kvs, p.1 ≠ s.data.toList → ∀ qs, OwnS B Q p.2 qs → OwnS B w3 p.2 qs := fun p hp hne qs hq => World.ownsRow.kept hq g3 (by
        rcases hv : p.2.ownBlock with _ | j
        · exact .inl rfl
        · exact .inr (fun e => HF.out.apart HU.out hp hne j hv e.symm))
      refine ⟨fun t => ?_, fun r hr => ?_, fun p hp q hq hpq j hj e => ?_⟩
      · rw [addD_keys, addS_mem, FQ.1]
        constructor
        · rintro (ht | rfl)
          · obtain ⟨r, hr, rfl⟩ := List.mem_map.1 ht
            by_cases es : r.1 = s
            · exact List.mem_map.2 ⟨_, putF_mem.2 (.inl rfl), by simp [nmP, es]⟩
            · exact List.mem_map.2 ⟨r, putF_mem.2 (.inr ⟨hr, es⟩), rfl⟩
          · exact List.mem_map.2 ⟨_, putF_mem.2 (.inl rfl), rfl⟩
        · intro ht
          obtain ⟨r, hr, rfl⟩ := List.mem_map.1 ht
          rcases putF_mem.1 hr with rfl | ⟨hr, _⟩
          · exact .inr rfl
          · exact .inl (List.mem_map.2 ⟨r, hr, rfl⟩)
      · rcases putF_mem.1 hr with rfl | ⟨hr, hne⟩
        · refine ⟨v2, _, Fol.addD_self, o3, ?_, by rw [List.length_append, List.length_singleton]; omega⟩
          rw [catT_snoc, HC.out, ByteArray.data_append, Array.toList_append]
        · obtain ⟨x, qs, h1, h2, h3, h4⟩ := FQ.2.1 r hr
          have hne' : nmP r ≠ s.data.toList := fun e => hne (nmP_inj e)
          exact ⟨x, qs, Fol.addD_old h1 hne', hmv _ h1 hne' qs h2, h3, by omega⟩
      · have hfar : ∀ p ∈ kvs, p.1 ≠ s.data.toList → ∀ j, p.2.ownBlock = some j → v2.ownBlock ≠ some j := by
          intro p hp hne j hj e
          rcases hvb j e with h | h
          · exact HF.out.apart HU.out hp hne j hj h
          · have := (HF.out.lt HM.out.nodup hp hj).2; omega
        rcases addD_mem hp with rfl | ⟨hn, hp⟩
        · rcases addD_mem hq with rfl | ⟨hn, hq⟩
          · exact hpq rfl
          · exact hfar q hq hn j e hj
        · rcases addD_mem hq with rfl | ⟨hn', hq⟩
          · exact hfar p hp hn j hj e
          · exact FQ.2.2 p hp q hq hpq j hj e
    refine hK.out _ _ ?_ (fun hHeld => ?_)
    · exact ⟨X3.now.at 1, X3.now.at 3⟩
    clear hK K
    refine wpAnyH_ready (rs := [14]) (by kernel_rfl) (by simp) ?_
    refine AllReadyH.cons rfl (fun K hK => ?_) AllReadyH.nil
    rw [if_pos (by rfl)]
    refine upon_putF _ _ _ _ (by rfl) b n kvs (by rfl) M3 hn1 s hs (by rfl) v2 (by rfl) ?_
    intro w4 M4 g4
    have X4 := X3.step (Turn.of_grown (D := b) (E := w.heap.size) g4 (fun j hj => by cases hj; exact ⟨Nat.le_refl _, hbl⟩)) (.inr (Nat.le_refl _))
    have F4 := F3.update g4 M3.isMap
    have n4 : Below B w w4 := (((HB.out.trans (bQ.mono (by omega))).mono (by omega)).trans n3).grown g4 (by have := n3.size; have := bQ.size; omega) (fun j hj => by cases hj; exact hB)
    have HP : Hid (DonePost B (m + 1) b (n + 1) (putF P (s, dataAt P s ++ d)) w (.returned (.tuple #[])) w4) := Lib.hid ⟨⟨_, rfl⟩, _, ⟨M4, F4⟩, n4⟩
    refine hK.out _ _ ?_ (fun hHeld => ?_)
    · exact ⟨X4.now.at 1, X4.now.at 3⟩
    clear hK K M3 F3 g3 g4 F4 M4 n4 n3 hvb hat o3
    refine wpAnyH_done (by kernel_rfl) ?_ _
    try simp only [Act.put, List.setIfInBounds_toArray, List.set_cons_zero, List.set_cons_succ, List.getElem_toArray, List.getElem_cons_zero, List.getElem_cons_succ]
    go_wp2_with fail
    go_end0
    exact HP.out
set_option maxRecDepth 100000 in
set_option maxHeartbeats 3200000 in
theorem doneR (r : Int) (s t d e0 : ByteArray) (B m b n : Nat) (kvs : List (Txt × Value)) (P : List Pre2) (hs : s.size ≤ maxLen) (ht : t.size ≤ maxLen) (w : World) (hM : OwnMapD w b n kvs) (hF : FolIs B m w kvs P) (hB : B ≤ b) (hn : n ≤ 1000000) (he : atF P s = some e0) :
    Calls Try.prog 152 #[.agg #[.int .i64 r, .string s, .string t, .string d], .map (some b)] w (DonePost B m b (n + 1) (putF (cutF P s) (t, e0)) w) := by
  have B0 := (Below.refl w.heap.size w).alloc (Nat.le_refl _) (.cells #[.int .i64 r, .string s, .string t, .string d] 139)
  have X := cells_new w #[.int .i64 r, .string s, .string t, .string d] 139
  have hbl := hM.lt
  have HM := Lib.hid (hM.next B0)
  have HF := Lib.hid (hF.next B0)
  obtain ⟨u, ps, hu, ou, hcat, hpl⟩ := hF.at he
  have HU : Hid ((s.data.toList, u) ∈ kvs ∨ (s.data.toList ∉ kvs.map Prod.fst ∧ u = .slice none 0 0)) := Lib.hid (.inl hu)
  have HO := Lib.hid (ou.kept B0)
  have HC := Lib.hid hcat
  have HB := Lib.hid B0
  have x0 := X.now.at 0
  have x1 := X.now.at 1
  have x2 := X.now.at 2
  have x3 := X.now.at 3
  have hn1 : n < maxLen := by unfold maxLen; omega
  have hBw : B ≤ w.heap.size := by omega
  clear hM hF B0 hu ou hcat
  have HX := Lib.hid X
  clear X
  go_enter Try.func152, Try.ntmps152
  go_wp2_with (first
    | (at_lookup; refine wpList_lookF _ rfl _ _ rfl b n kvs rfl HM.out s hs u HU.out rfl ?_)
    | (at_delete; refine wpList_dropF _ rfl _ _ rfl b n kvs rfl HM.out s hs rfl ?_; intro w2 M2 g2; have y2 : w2.cell? ⟨w.heap.size, 2, none⟩ = some (.string t) := (HX.out.step (Turn.of_grown (D := b) (E := w.heap.size) g2 (fun j hj => by cases hj; exact ⟨Nat.le_refl _, hbl⟩)) (.inr (Nat.le_refl _))).now.at 2)
    | (at_mapUpdate; refine wpList_putF _ rfl _ _ _ rfl b n _ rfl M2 hn1 t ht rfl u rfl ?_; intro w3 M3 g3))
  have F2 := (HF.out.update g2 HM.out.isMap).cut (P' := cutF P s) (s := s) (fun y => cutF_mem)
  have N2 : Below B w w2 := (HB.out.mono hBw).grown g2 (by have := HB.out.size; omega) (fun j hj => by cases hj; exact hB)
  have O2 : OwnS B w2 u ps := World.ownsRow.kept HO.out g2 (Fol.row_no_map HO.out HM.out.isMap)
  have F3 := F2.put (P' := putF (cutF P s) (t, e0)) (s := t) (d := e0) (v := u) (ps := ps) (fun y => putF_mem) O2 HC.out hpl (fun p hp _ => HF.out.apart HU.out (Fol.strike_mem.1 hp).1 (Fol.strike_mem.1 hp).2)
  have F4 := F3.update g3 M2.isMap
  have N4 : Below B w w3 := N2.grown g3 (by have := N2.size; omega) (fun j hj => by cases hj; exact hB)
  go_end0
  exact ⟨⟨_, rfl⟩, _, ⟨M3, F4⟩, N4⟩
set_option maxRecDepth 100000 in
set_option maxHeartbeats 3200000 in
theorem doneM (r : Int) (s t d e0 : ByteArray) (B m b n : Nat) (kvs : List (Txt × Value)) (P : List Pre2) (hs : s.size ≤ maxLen) (w : World) (hM : OwnMapD w b n kvs) (hF : FolIs B m w kvs P) (hB : B ≤ b) (he : atF P s = some e0) :
    Calls Try.prog 156 #[.agg #[.int .i64 r, .string s, .string t, .string d], .map (some b)] w (DonePost B m b (n + 1) (cutF P s) w) := by
  have B0 := (Below.refl w.heap.size w).alloc (Nat.le_refl _) (.cells #[.int .i64 r, .string s, .string t, .string d] 140)
  have X := cells_new w #[.int .i64 r, .string s, .string t, .string d] 140
  have hbl := hM.lt
  have HM := Lib.hid (hM.next B0)
  have HF := Lib.hid (hF.next B0)
  obtain ⟨u, ps, hu, ou, hcat, hpl⟩ := hF.at he
  have HU : Hid ((s.data.toList, u) ∈ kvs ∨ (s.data.toList ∉ kvs.map Prod.fst ∧ u = .slice none 0 0)) := Lib.hid (.inl hu)
  have HO := Lib.hid (ou.kept B0)
  have HC := Lib.hid hcat
  have HB := Lib.hid B0
  have x0 := X.now.at 0
  have x1 := X.now.at 1
  have x2 := X.now.at 2
  have x3 := X.now.at 3
  have hBw : B ≤ w.heap.size := by omega
  clear hM hF B0 hu ou hcat
  clear X
  go_enter Try.func156, Try.ntmps156
  go_wp2_with (at_delete; refine wpList_dropF _ rfl _ _ rfl b n kvs rfl HM.out s hs rfl ?_; intro w2 M2 g2)
  have F2 := (HF.out.update g2 HM.out.isMap).cut (P' := cutF P s) (s := s) (fun y => cutF_mem)
  have N2 : Below B w w2 := (HB.out.mono hBw).grown g2 (by have := HB.out.size; omega) (fun j hj => by cases hj; exact hB)
  go_end0
  exact ⟨⟨_, rfl⟩, _, ⟨M2.mono (Nat.le_succ _), F2⟩, N2⟩
end Go.Proofs.Ytamnlifdfhmbnaa
