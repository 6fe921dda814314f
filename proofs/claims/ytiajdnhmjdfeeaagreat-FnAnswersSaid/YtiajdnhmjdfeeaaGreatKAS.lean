/- What the shared texts say besides. -/
import Derived.Test.YtiajdnhmjdfeeaaGreatK05
import Derived.Test.YtiajdnhmjdfeeaaGreatK25
import Derived.Test.YtiajdnhmjdfeeaaGreatK38
import Derived.Test.YtiajdnhmjdfeeaaGreatK41
import Derived.Test.YtiajdnhmjdfeeaaGreatK42
namespace Go.Proofs
open Go.Shelf
theorem Tryz.lays156 : Go.Proofs.Lays.n156 Tryz.prog Tryz.lays156_ren := {
  mixed := by kernel_rfl
  f156 := Tryz.func68.trans (congrArg some (by kernel_rfl))
  f165 := Tryz.func115.trans (congrArg some (by kernel_rfl))
  f166 := Tryz.func67.trans (congrArg some (by kernel_rfl))
  f169 := Tryz.func71.trans (congrArg some (by kernel_rfl))
  f240 := Tryz.func114.trans (congrArg some (by kernel_rfl))
  f241 := Tryz.func156.trans (congrArg some (by kernel_rfl))
  f276 := Tryz.func155.trans (congrArg some (by kernel_rfl))
  f277 := Tryz.func178.trans (congrArg some (by kernel_rfl))
  t0 := Tryz.underlying0
  a0 := Tryz.isAgg0
  z0 := Tryz.sizeOf0
  v0 := Tryz.zeroValue0
  t3 := Tryz.underlying3
  a3 := Tryz.isAgg3
  z3 := Tryz.sizeOf3
  v3 := Tryz.zeroValue3
  t4 := Tryz.underlying4
  a4 := Tryz.isAgg4
  z4 := Tryz.sizeOf4
  v4 := Tryz.zeroValue4
  t9 := Tryz.underlying9
  a9 := Tryz.isAgg9
  z9 := Tryz.sizeOf9
  v9 := Tryz.zeroValue9
  t20 := Tryz.underlying20
  a20 := Tryz.isAgg20
  z20 := Tryz.sizeOf20
  v20 := Tryz.zeroValue20
  t31 := Tryz.underlying23
  a31 := Tryz.isAgg23
  z31 := Tryz.sizeOf23
  v31 := Tryz.zeroValue23
  t37 := Tryz.underlying43
  a37 := Tryz.isAgg43
  z37 := Tryz.sizeOf43
  v37 := Tryz.zeroValue43
  t70 := Tryz.underlying95
  a70 := Tryz.isAgg95
  z70 := Tryz.sizeOf95
  v70 := Tryz.zeroValue95
  t72 := Tryz.underlying97
  a72 := Tryz.isAgg97
  z72 := Tryz.sizeOf97
  v72 := Tryz.zeroValue97
  t75 := Tryz.underlying99
  a75 := Tryz.isAgg99
  z75 := Tryz.sizeOf99
  v75 := Tryz.zeroValue99
  t76 := Tryz.underlying100
  a76 := Tryz.isAgg100
  z76 := Tryz.sizeOf100
  v76 := Tryz.zeroValue100
  t127 := Tryz.underlying145
  a127 := Tryz.isAgg145
  z127 := Tryz.sizeOf145
  v127 := Tryz.zeroValue145
  t164 := Tryz.underlying183
  a164 := Tryz.isAgg183
  z164 := Tryz.sizeOf183
  v164 := Tryz.zeroValue183 }
theorem Tryz.Builder_Extra_156 : Builder.Extra Tryz.prog Tryz.lays156_ren := {
  sizeBuilder := by kernel_rfl
  liesBuilder := by kernel_rfl
  t5 := Tryz.underlying5
  a5 := Tryz.isAgg5
  z5 := Tryz.sizeOf5
  v5 := Tryz.zeroValue5
  infoByte := by kernel_rfl
  cellsByte := by kernel_rfl
  sizeByte := by kernel_rfl
  neB5 := by decide }
open Go.RowKit in
/-- No element: the empty string; the world is as it was. (Whatever the slice's address and capacity: a nil slice too.) (LAID: no walk: one application.) -/
theorem Tryz.strings_Join_none (a : Option Addr) (c : Nat) (sep : ByteArray) (w : World) :
    Calls Tryz.prog 68 #[.slice a 0 c, .string sep] w fun e w' => e = .returned (.string ⟨#[]⟩) ∧ w' = w := Any.strings_Join_none Tryz.lays156 Tryz.Builder_Extra_156 a c sep w
open Go.RowKit in
/-- strings.Join: "Join concatenates the elements of its first argument to create a single string. The separator string sep is placed between elements in the resulting string.": HOWEVER MANY ELEMENTS. Below the heap's end the world is as it was. (LAID: no walk: one application.) -/
theorem Tryz.strings_Join (bk o c : Nat) (xs : List ByteArray) (sep : ByteArray) (w : World) (hcells : ∀ (j : Nat) x, xs[j]? = some x → w.cell? ⟨bk, o + j, none⟩ = some (.string x)) (hbk : bk < w.heap.size) (hN : xs.length ≤ 140737488355328) (hcap : xs.length ≤ c) (hlen : (Lib.join (xs.map (·.data.toList)) sep.data.toList).length ≤ 140737488355328) :
    Calls Tryz.prog 68 #[.slice (some ⟨bk, o, none⟩) xs.length c, .string sep] w fun e w' => e = .returned (.string ⟨(Lib.join (xs.map (·.data.toList)) sep.data.toList).toArray⟩) ∧ Below w.heap.size w w' := Any.strings_Join Tryz.lays156 Tryz.Builder_Extra_156 bk o c xs sep w hcells hbk hN hcap hlen
end Go.Proofs
namespace Go.Proofs.YtiajdnhmjdfeeaaGreat
open Go.RowKit
theorem putAllP_snoc : ∀ (b a : List Pre2) (p : Pre2), putAllP a (b ++ [p]) = (putAllP a b).bind (fun h => putP h p)
  | [], a, p => by
    show putAllP a [p] = _
    unfold putAllP
    cases h : putP a p <;> simp [putAllP, h]
  | q :: r, a, p => by
    show putAllP a (q :: (r ++ [p])) = _
    unfold putAllP
    cases h : putP a q with
    | none => rfl
    | some h' => exact putAllP_snoc r h' p
theorem putAllP_none : ∀ (b c a : List Pre2), putAllP a b = none → putAllP a (b ++ c) = none
  | [], c, a, h => by simp [putAllP] at h
  | q :: r, c, a, h => by
    show putAllP a (q :: (r ++ c)) = _
    unfold putAllP at h ⊢
    cases hp : putP a q with
    | none => rfl
    | some h' => rw [hp] at h; exact putAllP_none r c h' h
theorem putAllP_asc : ∀ {b a h : List Pre2}, Asc a → putAllP a b = some h → Asc h
  | [], a, h, ha, e => by simp [putAllP] at e; subst e; exact ha
  | q :: r, a, h, ha, e => by
    unfold putAllP at e
    cases hp : putP a q with
    | none => rw [hp] at e; cases e
    | some h' => rw [hp] at e; exact putAllP_asc (putP_asc ha hp) e
theorem putAllP_mem {u : Pre2} : ∀ {b a h : List Pre2}, putAllP a b = some h → u ∈ h → u ∈ a ∨ u ∈ b
  | [], a, h, e, hu => by simp [putAllP] at e; subst e; exact .inl hu
  | q :: r, a, h, e, hu => by
    unfold putAllP at e
    cases hp : putP a q with
    | none => rw [hp] at e; cases e
    | some h' =>
      rw [hp] at e
      rcases putAllP_mem e hu with h1 | h1
      · rcases putP_mem hp h1 with rfl | h1
        · exact .inr (List.mem_cons_self ..)
        · exact .inl h1
      · exact .inr (List.mem_cons_of_mem _ h1)
end Go.Proofs.YtiajdnhmjdfeeaaGreat
namespace Go.Proofs.YtiajdnhmjdfeeaaGreat
open Go.RowKit Go.WideShapes
theorem projL_mem {rs : List RowV} {vs : List ByteArray} {r : RowV} (h : r ∈ projL rs vs) : ∃ s ∈ rs, keepL (txts vs) s = r := by
  unfold projL at h
  rcases addAllR_mem h with h | h
  · simp at h
  · obtain ⟨s, hs, e⟩ := List.mem_map.1 h
    exact ⟨s, hs, e⟩
theorem projL_has {rs : List RowV} {vs : List ByteArray} {r : RowV} (h : r ∈ projL rs vs) {t : Pre2} (ht : t ∈ r) : t.1.data.toList ∈ txts vs := by
  obtain ⟨s, _, rfl⟩ := projL_mem h
  have := (List.mem_filter.1 ht).2
  simpa using this
end Go.Proofs.YtiajdnhmjdfeeaaGreat
namespace Go.Proofs.YtiajdnhmjdfeeaaGreat
open Go.RowKit Go.WideShapes Go.Maps
set_option maxRecDepth 100000 in
set_option maxHeartbeats 3200000 in
theorem drawRowsText (w : World) (a : Option Addr) (len cap : Nat) (zs : List Int) (hrow : Frame.IsRow .u8 w a len cap zs) :
    Calls Tryz.prog 23 #[.slice a len cap] w fun e w' => ∃ (x : Option Addr) (n c : Nat) (R : List RowV), e = .returned (.slice x n c) ∧ IsRows w' x n c R ∧ SmR R ∧ n ≤ 300 ∧ Below w.heap.size w w' := by
  go_enter Tryz.func23, Tryz.ntmps23
  go_wp2_with fail
  refine (drawAnswer _ _ _ _ _ hrow).mono ?_
  rintro e w0 ⟨va, ts, a0, a1, a2, n0, n1, n2, c0, c1, c2, vs, t1, t2, rfl, hg, hq, hsm, g0⟩
  have hb0 := below_of_grown g0
  have hbx : Below w0.heap.size w0 (w0.alloc (.cells #[.slice a0 n0 c0, .slice a1 n1 c1, .slice a2 n2 c2] 34)) := (Below.refl w0.heap.size w0).alloc (Nat.le_refl _) _
  have B1 := Lib.hid (hb0.alloc hb0.size (.cells #[.slice a0 n0 c0, .slice a1 n1 c1, .slice a2 n2 c2] 34))
  have X1 := Lib.hid (cells_new w0 #[.slice a0 n0 c0, .slice a1 n1 c1, .slice a2 n2 c2] 34)
  have I1 := hq.next hbx
  obtain ⟨xa, ca, rfl, hi, hp, hsg⟩ := hg
  have A1 := hi.next hbx
  have hga : SmT ts := fun t ht => by have := hsg.2 t ht; omega
  have hs1 : SmT t1 := fun t ht => by have := hsm.2.1.2 t ht; omega
  have hs2 : SmT t2 := fun t ht => by have := hsm.2.2.2 t ht; omega
  have C := Lib.hid (specAnswer xa _ ca ts a0 a1 a2 n0 n1 n2 c0 c1 c2 vs t1 t2 _ A1 I1 hga (fun t ht => by have := hsm.1.2 t ht; omega) hs1 hs2 (by have := hq.1.1.len; have := hsm.1.1; omega))
  have HM := Lib.hid (ansR_sz (vs := vs) hga hs1 hs2)
  have HS : Hid (SmR (ansR ts vs t1 t2)) := Lib.hid (by
    intro r hr t ht
    cases h : ansRows ts vs t1 t2 with
    | none => rw [(ans_none h).2] at hr; simp at hr
    | some rs =>
      rw [(ans_some h).2] at hr
      obtain ⟨s, hs, hts⟩ := (projR_sz rs vs).2.2 r hr t ht
      exact ansRows_sm hga hs1 hs2 h s hs t hts)
  obtain ⟨x0, x1, x2⟩ := X1.out.now.tre
  clear hrow hb0 hbx g0 hq hi hp hsg hsm hga hs1 hs2 A1 I1 X1
  go_wp2_with fail
  refine C.out.mono ?_
  rintro e w2 ⟨x, n, c, rfl, ri, hb⟩
  have B2 := Lib.hid (B1.out.trans (hb.mono B1.out.size))
  have HN : n ≤ 300 := by rw [← ri.len]; exact HM.out.1
  have RI := Lib.hid ri
  clear x0 x1 x2 hb B1 C ri
  go_wp2_with fail
  go_ret
  exact ⟨x, n, c, _, rfl, RI.out, HS.out, HN, B2.out⟩
end Go.Proofs.YtiajdnhmjdfeeaaGreat
namespace Go.Proofs.YtiajdnhmjdfeeaaGreat
open Go.RowKit Go.WideShapes Go.Maps Go.Sort Go.Shelf
theorem no_clash {h : RowV} (ha : Asc h) {S : Pre2 → Prop} (hs : ∀ u, S u → u ∈ h) : ¬ Clash S := by
  rintro ⟨x, y, hx, hy, e, hn⟩
  exact hn (asc_uniq ha (hs x hx) (hs y hy) e)
theorem putP_clash {g : List Pre2} {p : Pre2} (e : putP g p = none) : Clash (fun u => u ∈ g ∨ u = p) := by
  unfold putP at e
  split at e
  · rename_i q hq
    split at e
    · rename_i h1
      split at e
      · cases e
      · rename_i h2
        exact ⟨q, p, .inl (List.mem_of_getElem? hq), .inr rfl, h1, fun e => h2 (by rw [e])⟩
    · cases e
  · cases e
theorem putP_just {g h : List Pre2} {p : Pre2} (ha : Asc g) (e : putP g p = some h) : JustP h (fun u => u ∈ g ∨ u = p) :=
  ⟨putP_asc ha e, fun u => ⟨fun hu => (putP_mem e hu).symm, fun hu => by
    rcases hu with hu | rfl
    · exact putP_sub e u hu
    · exact putP_has e⟩⟩
theorem putAllP_just : ∀ {b a h : List Pre2}, Asc a → putAllP a b = some h → JustP h (fun u => u ∈ a ∨ u ∈ b)
  | [], a, h, ha, e => by
    simp only [putAllP, Option.some.injEq] at e
    subst e
    exact ⟨ha, fun u => by simp⟩
  | p :: r, a, h, ha, e => by
    unfold putAllP at e
    cases hp : putP a p with
    | none => rw [hp] at e; cases e
    | some h' =>
      rw [hp] at e
      obtain ⟨h1, h2⟩ := putP_just ha hp
      obtain ⟨k1, k2⟩ := putAllP_just h1 e
      have h2' : ∀ u, u ∈ h' ↔ (u ∈ a ∨ u = p) := h2
      have k2' : ∀ u, u ∈ h ↔ (u ∈ h' ∨ u ∈ r) := k2
      refine ⟨k1, fun u => ?_⟩
      show u ∈ h ↔ (u ∈ a ∨ u ∈ p :: r)
      rw [k2', h2', List.mem_cons, or_assoc]
theorem putAllP_clash : ∀ {b a : List Pre2}, Asc a → putAllP a b = none → Clash (fun u => u ∈ a ∨ u ∈ b)
  | [], a, ha, e => by simp [putAllP] at e
  | p :: r, a, ha, e => by
    unfold putAllP at e
    cases hp : putP a p with
    | none =>
      obtain ⟨x, y, hx, hy, h1, h2⟩ := putP_clash hp
      exact ⟨x, y, hx.imp id (fun e => by rw [e]; exact List.mem_cons_self ..), hy.imp id (fun e => by rw [e]; exact List.mem_cons_self ..), h1, h2⟩
    | some h' =>
      rw [hp] at e
      obtain ⟨h1, h2⟩ := putP_just ha hp
      obtain ⟨x, y, hx, hy, k1, k2⟩ := putAllP_clash h1 e
      have h2' : ∀ u, u ∈ h' ↔ (u ∈ a ∨ u = p) := h2
      have f : ∀ u, u ∈ h' ∨ u ∈ r → u ∈ a ∨ u ∈ p :: r := fun u hu => by
        rw [h2', or_assoc] at hu
        rwa [List.mem_cons]
      exact ⟨x, y, f x hx, f y hy, k1, k2⟩
theorem merged_is {a b : RowV} {o : Option RowV} (ha : rowOk a = true) (hb : rowOk b = true) (hm : ∀ h, o = some h → rowOk h = true) (e : putAllP a b = o) : mergedP a b = o := by
  unfold mergedP
  rw [if_pos ⟨ha, hb⟩, e]
  cases o with
  | none => rfl
  | some h => exact if_pos (hm h rfl)
end Go.Proofs.YtiajdnhmjdfeeaaGreat
namespace Go.Proofs.YtiajdnhmjdfeeaaGreat
open Go.RowKit Go.WideShapes Go.Maps Go.Sort Go.Shelf
/-- Two parts of a row agree. -/
theorem parts_agree {a b m : RowV} (ha : rowOk a = true) (hb : rowOk b = true) (hm : rowOk m = true) (h1 : ∀ u ∈ a, u ∈ m) (h2 : ∀ u ∈ b, u ∈ m) : (mergedP a b).isSome = true := by
  have am := asc_ok hm
  have aa := asc_ok ha
  cases e : putAllP a b with
  | none => exact absurd (putAllP_clash aa e) (no_clash am (fun u hu => hu.elim (h1 u) (h2 u)))
  | some h =>
    have k := putAllP_just aa e
    have hin : ∀ u ∈ h, u ∈ m := fun u hu => ((k.2 u).1 hu).elim (h1 u) (h2 u)
    have hlen : h.length ≤ m.length := List.Nodup.length_le_of_subset (ascP_nodup (asc_iff.1 k.1)) (fun u hu => hin u hu)
    have h12 := rowOk_most hm
    have hpm : ∀ t ∈ m, pairT t = true := by
      have := hm
      unfold rowOk at this
      rw [Bool.and_eq_true] at this
      exact fun t ht => gUpto_mem this.2 t ht
    have hok : rowOk h = true := by
      unfold rowOk
      rw [Bool.and_eq_true, decide_eq_true_eq]
      exact ⟨by omega, upto_of_pairs (fun t ht => hpm t (hin t ht)) k.1⟩
    rw [merged_is ha hb (fun h' e' => by cases e'; exact hok) e]
    rfl
/-- Each row of an answer agrees with a solution. -/
theorem ans_part {gs t1 : List Tri3} {rs : List RowV} {vs : List ByteArray} (h : Mid gs t1 rs) : ∀ r ∈ projL rs vs, ∃ s ∈ solR gs t1, (mergedP s r).isSome = true := by
  intro r hr
  obtain ⟨m, hm, rfl⟩ := (projL_back h.ok r).1 hr
  obtain ⟨s, hs, hsm⟩ := h.of m hm
  exact ⟨s, hs, parts_agree (solR_rowOk h.sol s hs) (rowOk_keep (h.ok m hm)) (h.ok m hm) hsm keepL_sub⟩
/-- There are rows just where there are solutions. -/
theorem ans_nil {gs t1 : List Tri3} {rs : List RowV} {vs : List ByteArray} (h : Mid gs t1 rs) : ((solR gs t1).length = 0) ↔ ((projL rs vs).length = 0) := by
  rw [List.length_eq_zero_iff, List.length_eq_zero_iff]
  constructor
  · intro e
    refine List.eq_nil_iff_forall_not_mem.2 fun r hr => ?_
    obtain ⟨m, hm, _⟩ := (projL_back h.ok r).1 hr
    obtain ⟨s, hs, _⟩ := h.of m hm
    rw [e] at hs
    simp at hs
  · intro e
    refine List.eq_nil_iff_forall_not_mem.2 fun s hs => ?_
    obtain ⟨m, hm, _⟩ := h.all s hs
    have := (projL_back (vs := vs) h.ok _).2 ⟨m, hm, rfl⟩
    rw [e] at this
    simp at this
end Go.Proofs.YtiajdnhmjdfeeaaGreat
