/- A triple put into a dataset's graph, or taken out of it: the specification. -/
import Derived.Test.YthnpchcfjkepaaaG14
import Derived.Test.YthnpchcfjkepaaaG19
import Derived.Test.YthnpchcfjkepaaaG01
import Derived.Test.YthnpchcfjkepaaaG00
import Derived.WalkSpells
import Derived.WalkLawsBesides
import Derived.Outline
import Derived.Lib.Hide
import Derived.Deep.QuietTactic
import Derived.BigQuiet
import Derived.Maps.AppendAt
import Derived.Deep.RegionWith
import Derived.IntWalk
import Derived.RegionTactic
import Derived.Test.YthnpchcfjkepaaaG08
namespace Go.Proofs.Ythnpchcfjkepaaa
open Go.RowKit Go.WideShapes
def dataWith (ts : List NamV) (s : ByteArray) (t : Tri3) : Option (List NamV) :=
  if dataOk ts = true ∧ kindL s.data.toList = 1 then
    match withT (graphAt ts s) t with
    | none => none
    | some g => if dataOk (putNam ts (s, g)) = true then some (putNam ts (s, g)) else none
  else none
def dataWithout (ts : List NamV) (s : ByteArray) (t : Tri3) : Option (List NamV) :=
  if dataOk ts = true then
    match withoutT (graphAt ts s) t with
    | none => none
    | some g => some (putNam ts (s, g))
  else none
def ResN (r : Option (List NamV)) (w : World) (e : Ending) (w' : World) : Prop :=
  ∃ v, e = .returned (.tuple #[v, .bool r.isSome]) ∧ OwnNs w.heap.size w' v (r.getD []) ∧ Below w.heap.size w w'
theorem ResN.no {w w' : World} (hb : Below w.heap.size w w') : ResN none w (.returned (.tuple #[.slice none 0 0, .bool false])) w' := ⟨_, rfl, ⟨[], World.ownsRow_nil .., InnN.nil _ _, by simp⟩, hb⟩
theorem ResN.yes {w w' : World} {v : Value} {ts : List NamV} (h : OwnNs w.heap.size w' v ts) (hb : Below w.heap.size w w') : ResN (some ts) w (.returned (.tuple #[v, .bool true])) w' := ⟨_, rfl, h, hb⟩
theorem OwnNs.keep {B : Nat} {w w' : World} {v : Value} {ts : List NamV} (h : OwnNs B w v ts) (hb : Below w.heap.size w w') : OwnNs B w' v ts := by
  obtain ⟨us, h1, h2, h3⟩ := h
  exact (OutN.next (⟨h1, h2, h3⟩ : OutN B w v ts us) hb).own
theorem putGo_mem {x y : NamV} : ∀ {ts : List NamV} {d : Bool}, y ∈ putGo x d ts → y = x ∨ y ∈ ts
  | [], d, h => by
    unfold putGo at h
    cases d
    · left; simpa using h
    · simp at h
  | r :: rs, d, h => by
    unfold putGo at h
    rcases List.mem_append.1 h with h | h
    · left
      split at h
      · simpa using h
      · simp at h
    · rcases List.mem_append.1 h with h | h
      · right
        split at h
        · simp at h
        · simp at h; simp [h]
      · rcases putGo_mem h with h | h
        · exact .inl h
        · exact .inr (List.mem_cons_of_mem _ h)
theorem putNam_sm {ts : List NamV} {x : NamV} (h : SmN ts) (hx : x.1.size ≤ 1048576 ∧ ∀ t ∈ x.2, t.1.size + t.2.1.size + t.2.2.size ≤ 1048576) : SmN (putNam ts x) := by
  intro y hy
  rcases putGo_mem hy with rfl | hy
  · exact hx
  · exact h y hy
theorem SmN.all {ts : List NamV} (h : SmN ts) : SmAllN ts := by
  intro r hr
  obtain ⟨h1, h2⟩ := h r hr
  refine ⟨by unfold maxLen; omega, fun t ht => ?_⟩
  have := h2 t ht
  unfold maxLen
  omega
theorem graphAt_sm {ts : List NamV} (h : SmN ts) (s : ByteArray) : ∀ t ∈ graphAt ts s, t.1.size + t.2.1.size + t.2.2.size ≤ 1048576 := by
  rcases graphAt_mem ts s with e | ⟨r, hr, e⟩
  · rw [e]; intro t ht; simp at ht
  · rw [e]; exact (h r hr).2
theorem withT_mem {g g' : List Tri3} {t : Tri3} (h : withT g t = some g') : ∀ u ∈ g', u = t ∨ u ∈ g := by
  obtain ⟨_, _, rfl, _⟩ := withT_some h
  intro u hu
  exact putT_mem.1 hu
theorem withoutT_mem {g g' : List Tri3} {t : Tri3} (h : withoutT g t = some g') : ∀ u ∈ g', u ∈ g := by
  obtain ⟨_, _, rfl, _⟩ := withoutT_some h
  intro u hu
  exact (lessT_mem.1 hu).2
set_option maxRecDepth 100000 in
set_option maxHeartbeats 3200000 in
theorem specDataWith (a : Option Addr) (len cap : Nat) (ts : List NamV) (s t0 t1 t2 : ByteArray) (w : World) (h : IsNams w a len cap ts) (hs : SmN ts) (hsz : s.size ≤ 1048576) (ht : t0.size + t1.size + t2.size ≤ 1048576) (htot : totN ts ≤ 1048576) :
    Calls Try.prog 93 #[.slice a len cap, .string s, .agg #[.string t0, .string t1, .string t2]] w (ResN (dataWith ts s (t0, t1, t2)) w) := by
  have X0 := Box.new w (.string t0) (.string t1) (.string t2) 34
  have B0 := (Below.refl w.heap.size w).alloc (Nat.le_refl _) (.cells #[.string t0, .string t1, .string t2] 34)
  have C := specDataOk a len cap ts _ (h.next B0) hs
  have H := Lib.hid h
  have HS := Lib.hid hs
  have HX0 := Lib.hid X0
  clear h
  cases hq : dataOk ts
  · rw [hq] at C
    have HC := Lib.hid C
    have HG : Hid (dataWith ts s (t0, t1, t2) = none) := Lib.hid (by unfold dataWith; rw [if_neg]; intro h; rw [hq] at h; exact Bool.noConfusion h.1)
    clear C hq hs X0
    go_enter Try.func93, Try.ntmps93
    go_wp2_with fail
    refine HC.out.mono ?_
    rintro e w1 ⟨rfl, hb1⟩
    have B1 := B0.trans (hb1.mono B0.size)
    go_wp2_with fail
    go_ret2
    rw [HG.out]
    exact ResN.no B1
  rw [hq] at C
  have HC := Lib.hid C
  have hl6 : len ≤ 1048570 := by
    have h1 := H.out.len
    have h2 : ts.length ≤ 6 := by unfold dataOk at hq; rw [Bool.and_eq_true, decide_eq_true_eq] at hq; exact hq.1
    omega
  obtain ⟨kk, hkk⟩ : ∃ k, kindL s.data.toList = k := ⟨_, rfl⟩
  have V0 := specKindOf s (by omega)
  rw [hkk] at V0
  have HV := Lib.hid V0
  by_cases hk1 : kk = 1
  rotate_left
  · have hk2 : ¬ ((kk : Nat) : Int) = 1 := by omega
    have HG : Hid (dataWith ts s (t0, t1, t2) = none) := Lib.hid (by unfold dataWith; rw [if_neg]; intro h; rw [hkk] at h; exact hk1 h.2)
    clear C hq hs X0 hkk V0
    go_enter Try.func93, Try.ntmps93
    go_wp2_with fail
    refine HC.out.mono ?_
    rintro e w1 ⟨rfl, hb1⟩
    have B1 := B0.trans (hb1.mono B0.size)
    go_wp2_with fail
    refine (HV.out _).mono ?_
    rintro e w2 ⟨rfl, hb2⟩
    have B2 := B1.trans (hb2.mono B1.size)
    go_wp2_with fail
    go_ret2
    rw [HG.out]
    exact ResN.no B2
  subst hk1
  have HD : Hid (dataWith ts s (t0, t1, t2) = (match withT (graphAt ts s) (t0, t1, t2) with
    | none => none
    | some g => if dataOk (putNam ts (s, g)) = true then some (putNam ts (s, g)) else none)) := Lib.hid (by unfold dataWith; rw [if_pos ⟨hq, hkk⟩])
  have HGS := Lib.hid (graphAt_sm hs s)
  have HWM : Hid (∀ g, withT (graphAt ts s) (t0, t1, t2) = some g → ∀ u ∈ g, u.1.size + u.2.1.size + u.2.2.size ≤ 1048576) := Lib.hid (fun g hg u hu => by
    rcases withT_mem hg u hu with rfl | hu
    · exact ht
    · exact HGS.out u hu)
  have hgsm : Sm (graphAt ts s) := fun u hu => by have := HGS.out u hu; omega
  have hgall : ∀ u ∈ graphAt ts s, u.1.size ≤ maxLen ∧ u.2.1.size ≤ maxLen ∧ u.2.2.size ≤ maxLen := fun u hu => by have := HGS.out u hu; unfold maxLen; omega
  have HGA := Lib.hid hgall
  have HGM := Lib.hid hgsm
  clear C hq hs X0 hgsm hgall hkk V0
  go_enter Try.func93, Try.ntmps93
  go_wp2_with fail
  refine HC.out.mono ?_
  rintro e w1 ⟨rfl, hb1⟩
  have B1 := B0.trans (hb1.mono B0.size)
  have X1 := HX0.out.next hb1
  clear hb1
  go_wp2_with fail
  refine (HV.out _).mono ?_
  rintro e w2 ⟨rfl, hb2⟩
  have B2 := B1.trans (hb2.mono B1.size)
  have X2 := X1.next hb2
  clear hb2 X1 B1 HV
  go_wp2_with fail
  refine wp_region_held_drew (S := (fun w' => w'.cell? ⟨w.heap.size, 0, none⟩ = some (.string t0) ∧ w'.cell? ⟨w.heap.size, 1, none⟩ = some (.string t1) ∧ w'.cell? ⟨w.heap.size, 2, none⟩ = some (.string t2))) (by kernel_rfl) ?_ (fun hHeld => ?_)
  · exact X2.drew.cells
  refine wpAnyH_take (i := 0) (v := ?_) rfl (by kernel_rfl) (by kernel_rfl) (by kernel_rfl) (fun _ _ _ h => h) (Or.inl ⟨by kernel_rfl, ?_⟩) (by assumption) ?_
  rotate_left
  · intro w hSw; (try dsimp only at hSw); go_simp; try with_reducible rfl
  refine wpAnyH_take (i := 1) (v := ?_) rfl (by kernel_rfl) (by kernel_rfl) (by kernel_rfl) (fun _ _ _ h => h) (Or.inl ⟨by kernel_rfl, ?_⟩) (by assumption) ?_
  rotate_left
  · intro w hSw; (try dsimp only at hSw); go_simp; try with_reducible rfl
  refine wpAnyH_take (i := 3) (v := ?_) rfl (by kernel_rfl) (by kernel_rfl) (by kernel_rfl) (fun _ _ _ h => h) (Or.inl ⟨by kernel_rfl, ?_⟩) (by assumption) ?_
  rotate_left
  · intro w hSw; (try dsimp only at hSw); go_simp; try with_reducible rfl
  refine wpAnyH_ready (rs := [2]) (by kernel_rfl) (by simp) ?_
  refine AllReadyH.cons rfl (fun K hK => ?_) AllReadyH.nil
  go_simp
  refine (specGraphAt a len cap ts s _ (H.out.next (by exact B2.drew)) htot).mono ?_
  rintro e w3 ⟨gv, rfl, og, hb3⟩
  have B3 : Below w.heap.size w w3 := B2.drew.trans (hb3.mono B2.drew.size)
  have X3 := X2.drew.next hb3
  obtain ⟨ga, gc, rfl, gi, gp⟩ := OwnT.plain og HGA.out
  have HGI := Lib.hid (And.intro gi gp)
  clear og gi gp hb3
  go_wp2_with fail
  clear hHeld
  refine hK.out _ _ ?_ (fun hHeld => ?_)
  · exact X3.cells
  clear hK K
  refine wpAnyH_ready (rs := [4]) (by kernel_rfl) (by simp) ?_
  refine AllReadyH.cons rfl (fun K hK => ?_) AllReadyH.nil
  go_simp
  refine (specWith ga _ gc _ t0 t1 t2 w3 HGI.out.1 HGI.out.2 HGM.out (by omega) (by omega) (by omega)).mono ?_
  rintro e w4 ⟨rv, rfl, ow, hb4⟩
  have B4 := B3.trans (hb4.mono B3.size)
  have X4 := X3.next hb4
  have OW := Lib.hid (own_base ow B3.size)
  clear ow hb4
  go_wp2_with fail
  clear hHeld
  refine hK.out _ _ ?_ (fun hHeld => ?_)
  · exact X4.cells
  clear hK K
  refine wpAnyH_take (i := 5) (v := ?_) rfl (by kernel_rfl) (by kernel_rfl) (by kernel_rfl) (fun _ _ _ h => h) (Or.inl ⟨by kernel_rfl, ?_⟩) (by assumption) ?_
  rotate_left
  · intro w hSw; (try dsimp only at hSw); go_simp; try with_reducible rfl
  refine wpAnyH_take (i := 6) (v := ?_) rfl (by kernel_rfl) (by kernel_rfl) (by kernel_rfl) (fun _ _ _ h => h) (Or.inl ⟨by kernel_rfl, ?_⟩) (by assumption) ?_
  rotate_left
  · intro w hSw; (try dsimp only at hSw); go_simp; try with_reducible rfl
  refine wpAnyH_take (i := 7) (v := ?_) rfl (by kernel_rfl) (by kernel_rfl) (by kernel_rfl) (fun _ _ _ h => h) (Or.inl ⟨by kernel_rfl, ?_⟩) (by assumption) ?_
  rotate_left
  · intro w hSw; (try dsimp only at hSw); go_simp; try with_reducible rfl
  refine wpAnyH_take (i := 8) (v := ?_) rfl (by kernel_rfl) (by kernel_rfl) (by kernel_rfl) (fun _ _ _ h => h) (Or.inl ⟨by kernel_rfl, ?_⟩) (by assumption) ?_
  rotate_left
  · intro w hSw; (try dsimp only at hSw); go_simp; try with_reducible rfl
  refine wpAnyH_take (i := 9) (v := ?_) rfl (by kernel_rfl) (by kernel_rfl) (by kernel_rfl) (fun _ _ _ h => h) (Or.inl ⟨by kernel_rfl, ?_⟩) (by assumption) ?_
  rotate_left
  · intro w hSw; (try dsimp only at hSw); go_simp; try with_reducible rfl
  refine wpAnyH_done (by kernel_rfl) ?_ _
  try simp only [Act.put, List.setIfInBounds_toArray, List.set_cons_zero, List.set_cons_succ, List.getElem_toArray, List.getElem_cons_zero, List.getElem_cons_succ]
  clear hHeld
  cases hw : withT (graphAt ts s) (t0, t1, t2) with
  | none =>
    have HG : Hid (dataWith ts s (t0, t1, t2) = none) := Lib.hid (by rw [HD.out, hw])
    rw [hw] at OW
    simp only [Option.isSome_none]
    go_wp2_with fail
    go_ret2
    rw [HG.out]
    exact ResN.no B4
  | some g =>
    have hsm2 := HWM.out g hw
    have HG : Hid (dataWith ts s (t0, t1, t2) = if dataOk (putNam ts (s, g)) = true then some (putNam ts (s, g)) else none) := Lib.hid (by rw [HD.out, hw])
    rw [hw] at OW
    simp only [Option.getD_some] at OW
    simp only [Option.isSome_some]
    obtain ⟨ra, rc, hre⟩ := own_slice_len OW.out
    subst hre
    have HPS : Hid (SmN (putNam ts (s, g))) := Lib.hid (putNam_sm HS.out ⟨hsz, hsm2⟩)
    have PP := Lib.hid (specPutNam w.heap.size a len cap ts s (.slice ra g.length rc) g w4 (H.out.next B4) OW.out B4.size hl6 htot)
    generalize putNam ts (s, g) = P at HG HPS PP
    clear hw hsm2 OW HD HWM HGS HGA HGM HGI X4
    go_wp2_with fail
    refine PP.out.mono ?_
    rintro e w5 ⟨pv, rfl, op, hb5⟩
    have B5 := B4.trans (hb5.mono B4.size)
    have OP := Lib.hid op
    clear op hb5 PP
    obtain ⟨pa, pc, rfl, pi⟩ := OP.out.is HPS.out.all
    have CK := specDataOk pa P.length pc P w5 pi HPS.out
    cases hp : dataOk P
    · rw [hp] at CK
      have HCK := Lib.hid CK
      have HN : Hid (dataWith ts s (t0, t1, t2) = none) := Lib.hid (by rw [HG.out, hp]; simp)
      clear CK hp pi
      go_wp2_with fail
      refine HCK.out.mono ?_
      rintro e w6 ⟨rfl, hb6⟩
      have B6 := B5.trans (hb6.mono B5.size)
      go_wp2_with fail
      go_ret2
      rw [HN.out]
      exact ResN.no B6
    · rw [hp] at CK
      have HCK := Lib.hid CK
      have HN : Hid (dataWith ts s (t0, t1, t2) = some P) := Lib.hid (by rw [HG.out, hp]; simp)
      clear CK hp pi
      go_wp2_with fail
      refine HCK.out.mono ?_
      rintro e w6 ⟨rfl, hb6⟩
      have B6 := B5.trans (hb6.mono B5.size)
      have O6 := Lib.hid (OP.out.keep hb6)
      go_wp2_with fail
      go_ret2
      rw [HN.out]
      exact ResN.yes O6.out B6
end Go.Proofs.Ythnpchcfjkepaaa
/- The contracts of the functions that escape. -/
namespace Go.Proofs.Ythnpchcfjkepaaa
open Go.RowKit
set_option maxHeartbeats 400000 in
theorem specEscaped (s : ByteArray) (w : World) (hs : s.size ≤ 2097152) :
    Calls Try.prog 128 #[.string s] w fun e w' => e = .returned (.string (bs (esc s.data.toList))) ∧ w = w' := by
  go_enter Try.func128, Try.ntmps128
  go_wp2
  go_loop [3, 4] (fun o i => ∃ k : Nat, k ≤ s.size ∧ i = .int .i64 k ∧ ∃ b : ByteArray, o = .string b ∧ b.size ≤ 2 * k ∧ Hid (b.data.toList = esc (s.data.toList.take k))) (fun _ i => s.size - (intOf i).toNat)
  case atStart => exact ⟨0, Nat.zero_le _, rfl, _, rfl, Nat.le_refl _, Lib.hid rfl⟩
  case round =>
    obtain ⟨k, hk, rfl, b, rfl, hbs, hb⟩ := hrel
    by_cases hlt : k < s.size
    · have HS : Hid (esc (s.data.toList.take (k + 1)) = b.data.toList ++ escB s[k]) := Lib.hid (by rw [take_snoc s k hlt, esc_snoc, hb.out])
      go_wp2
      all_goals
        go_round
        case rel => exact ⟨k + 1, by omega, by go_num, _, rfl, by simp [lit_size]; omega, Lib.hid (by rw [HS.out, app_toList, escB_b]; simp [*, drop_cons s k hlt])⟩
        case measure => simp [intOf]; omega
    · go_wp2
      go_ret
      exact ⟨by rw [bs_eq hb.out, take_all _ _ (by omega)]; rfl, rfl⟩
open Go.RowKit Go.WideShapes
/-- Block g holds a reader over bytes that lie below block B. -/
def Rd (B : Nat) (w : World) (g : Nat) : Prop := B ≤ g ∧ g < w.heap.size ∧ ∃ (a : Option Addr) (len cap : Nat) (zs : List Int) (p : Nat), Frame.IsRow .u8 w a len cap zs ∧ (∀ x, a = some x → 0 < zs.length → x.block < B) ∧
  w.cell? ⟨g, 0, none⟩ = some (.slice a len cap) ∧ w.cell? ⟨g, 1, none⟩ = some (.int .i64 p) ∧ p ≤ len ∧ len ≤ 9223372036854775807 ∧ w.frozen? ⟨g, 1, none⟩ = false
theorem isRow_keep {k : IntKind} {w w' : World} {a : Option Addr} {len cap : Nat} {zs : List Int} (h : Frame.IsRow k w a len cap zs) (hc : ∀ x, a = some x → 0 < zs.length → w'.heap[x.block]? = w.heap[x.block]?) : Frame.IsRow k w' a len cap zs := by
  rcases h with h | ⟨x, rfl, h1, h2, h3, h4, h5⟩
  · exact .inl h
  · refine .inr ⟨x, rfl, h1, h2, h3, fun i hi => ?_, h5⟩
    rw [← h4 i hi]
    refine World.cell?_of_block ?_
    have : (x.add i).block = x.block := by unfold Addr.add; split <;> rfl
    rw [this]
    exact hc x rfl (by omega)
/-- What is left as it was where another block, or none of old, was written. -/
theorem Rd.keep {B g : Nat} {w w' : World} (h : Rd B w g) (hs : w.heap.size ≤ w'.heap.size) (hg : w'.heap[g]? = w.heap[g]?) (hb : ∀ k, k < B → w'.heap[k]? = w.heap[k]?) : Rd B w' g := by
  obtain ⟨hB, hgs, a, len, cap, zs, p, hrow, hlt, hc0, hc1, hp, hlen, hfz⟩ := h
  refine ⟨hB, by omega, a, len, cap, zs, p, isRow_keep hrow fun x hx hz => hb _ (hlt x hx hz), hlt, ?_, ?_, hp, hlen, ?_⟩
  · rw [World.cell?_of_block (w := w) hg]; exact hc0
  · rw [World.cell?_of_block (w := w) hg]; exact hc1
  · rw [World.frozen?_of_block (w := w) hg]; exact hfz
theorem Rd.grown {B g : Nat} {w w' : World} {row : Option Nat} (h : Rd B w g) (hg : w.grownBy w' row) (hr : ∀ k, row = some k → B ≤ k ∧ k ≠ g) : Rd B w' g :=
  have h2 := h.1
  have h3 := h.2.1
  h.keep hg.size (hg.block g h3 fun e => (hr g e.symm).2 rfl) fun k hk => hg.block k (by omega) fun e => by have := (hr k e.symm).1; omega
theorem Rd.alloc {B g : Nat} {w : World} (h : Rd B w g) (o : Obj) : Rd B (w.alloc o) g := h.grown (World.grownBy_alloc w o none) (by simp)
theorem Rd.drewN {B g : Nat} {w : World} (h : Rd B w g) (n : Nat) : Rd B (w.drewN n) g := h.keep (Nat.le_refl _) rfl fun _ _ => rfl
theorem Rd.drew {B g : Nat} {w : World} (h : Rd B w g) : Rd B w.drew g := h.keep (Nat.le_refl _) rfl fun _ _ => rfl
theorem grownBy_drewN {w w' : World} {row : Option Nat} (h : w.grownBy w' row) (n : Nat) : w.grownBy (w'.drewN n) row := ⟨h.os, h.tape, h.output, h.size, h.block⟩
theorem grownBy_drew {w w' : World} {row : Option Nat} (h : w.grownBy w' row) : w.grownBy w'.drew row := ⟨h.os, h.tape, h.output, h.size, h.block⟩
theorem grownBy_set {w w' : World} {g : Nat} (h : w.grownBy w' (some g)) {a : Addr} (ha : a.block = g) (u : Value) : w.grownBy (w'.setCell a u) (some g) := by
  refine ⟨h.os, h.tape, h.output, by have := h.size; simp [World.setCell]; omega, fun k hk hne => ?_⟩
  rw [Below.heap_setCell _ _ _ _ (by intro e; exact hne (by rw [e, ha]))]
  exact h.block k hk hne
theorem rd_step {B g : Nat} {w : World} {a : Option Addr} {len cap p : Nat} {zs : List Int} (hB : B ≤ g) (hg : g < w.heap.size) (hrow : Frame.IsRow .u8 w a len cap zs) (hlt : ∀ x, a = some x → 0 < zs.length → x.block < B)
    (hc0 : w.cell? ⟨g, 0, none⟩ = some (.slice a len cap)) (hc1 : w.cell? ⟨g, 1, none⟩ = some (.int .i64 p)) (hp : p < len) (hlen : len ≤ 9223372036854775807) (hfz : w.frozen? ⟨g, 1, none⟩ = false) (n m : Nat) :
    Rd B (((w.drewN n).setCell ⟨g, 1, none⟩ (.int .i64 ((p : Int) + 1))).drewN m) g ∧ w.grownBy (((w.drewN n).setCell ⟨g, 1, none⟩ (.int .i64 ((p : Int) + 1))).drewN m) (some g) := by
  refine ⟨?_, grownBy_drewN (grownBy_set (grownBy_drewN (World.grownBy.refl _ _) _) rfl _) _⟩
  have H : ∀ k, k ≠ g → ((w.drewN n).setCell ⟨g, 1, none⟩ (.int .i64 ((p : Int) + 1))).heap[k]? = w.heap[k]? := fun k hk => Below.heap_setCell (w.drewN n) _ _ k hk
  refine Rd.drewN (w := (w.drewN n).setCell ⟨g, 1, none⟩ (.int .i64 ((p : Int) + 1))) ?_ m
  refine ⟨hB, by simpa [World.setCell] using hg, a, len, cap, zs, p + 1, isRow_keep hrow fun x hx hz => H _ (by have := hlt x hx hz; omega), hlt, ?_, ?_, hp, hlen, ?_⟩
  · rw [World.cell?_setCell_other _ _ _ _ (by simp)]; exact hc0
  · exact World.cell?_setCell_same (w.drewN n) _ _ (u := .int .i64 p) hc1
  · rw [World.frozen?_setCell]; exact hfz
set_option maxHeartbeats 800000 in
theorem rdNext (B g : Nat) (w : World) (h : Rd B w g) :
    Calls Try.prog 111 #[.pointer (some ⟨g, 0, none⟩)] w fun e w' => ∃ n : Nat, n < 256 ∧ e = .returned (.int .i64 n) ∧ Rd B w' g ∧ w.grownBy w' (some g) := by
  obtain ⟨hB, hg, a, len, cap, zs, p, hrow, hlt, hc0, hc1, hp, hlen, hfz⟩ := h
  by_cases hpl : p = len
  · subst hpl
    go_enter Try.func111, Try.ntmps111
    go_wp2
    go_quiet (fail)
    go_wp2
    go_ret
    exact ⟨0, by omega, rfl, Rd.drewN ⟨hB, hg, a, p, cap, zs, p, hrow, hlt, hc0, hc1, hp, hlen, hfz⟩ _, grownBy_drewN (World.grownBy.refl _ _) _⟩
  · have hpl' : (p : Int) < (len : Int) := by omega
    have hnn : ¬ ((len : Int) ≤ (p : Int)) := by omega
    obtain ⟨rfl, rfl, _, _⟩ | ⟨x, rfl, hlc, hcm, hzl, hcell, hwf⟩ := hrow
    · omega
    obtain ⟨xb, xo, xs⟩ := x
    have hcp := hcell p (by omega)
    obtain rfl : xs = none := by simpa [Addr.add] using World.cell?_spot (hcell 0 (by omega))
    have hxb : xb < B := hlt _ rfl (by omega)
    rw [add_plain] at hcp
    have hcp' : w.cell? ⟨xb, xo + p, none⟩ = some (.int .u8 (zs.getD p 0)) := hcp
    have hne : ¬ xb = g := by omega
    clear hcp
    have hz1 : 0 ≤ zs[p]?.getD 0 ∧ zs[p]?.getD 0 ≤ 255 := by
      have := hwf (zs.getD p 0) (by rw [List.getD, List.getElem?_eq_getElem (by omega)]; exact List.getElem_mem _)
      have := bounds_u8 this
      simpa using this
    obtain ⟨hz1, hz2⟩ := hz1
    have HR := Lib.hid (rd_step hB hg (.inr ⟨_, rfl, hlc, hcm, hzl, hcell, hwf⟩) hlt hc0 hc1 (by omega) hlen hfz)
    have HC := Lib.hid hcell; clear hcell
    have HW := Lib.hid hwf; clear hwf
    have HL := Lib.hid hlt; clear hlt
    have HZ := Lib.hid hzl; clear hzl
    go_enter Try.func111, Try.ntmps111
    go_wp2
    go_quiet (fail)
    go_wp2
    go_quiet (fail)
    go_wp2
    go_ret
    obtain ⟨n, hn⟩ := Int.eq_ofNat_of_zero_le hz1
    exact ⟨n, by omega, by rw [← hn]; simp, HR.out _ _⟩
set_option maxHeartbeats 800000 in
theorem rdBelow (B g : Nat) (w : World) (h : Rd B w g) (n : Int) (h1 : 1 ≤ n) (h2 : n ≤ 65536) :
    Calls Try.prog 92 #[.pointer (some ⟨g, 0, none⟩), .int .i64 n] w fun e w' => ∃ m : Int, 0 ≤ m ∧ m < n ∧ e = .returned (.int .i64 m) ∧ Rd B w' g ∧ w.grownBy w' (some g) := by
  by_cases c1 : n ≤ 1
  · go_enter Try.func92, Try.ntmps92
    go_wp2_with fail
    go_ret
    exact ⟨0, by omega, by omega, rfl, h, World.grownBy.refl _ _⟩
  by_cases c2 : n ≤ 256
  · go_enter Try.func92, Try.ntmps92
    go_wp2_with fail
    refine (rdNext B g _ h).mono ?_
    rintro e w1 ⟨x, hx, rfl, hr, hg⟩
    go_wp2_with fail
    go_ret
    exact ⟨x % n, Int.emod_nonneg _ (by omega), Int.emod_lt_of_pos _ (by omega), rfl, hr, hg⟩
  · go_enter Try.func92, Try.ntmps92
    go_wp2_with fail
    refine (rdNext B g _ h).mono ?_
    rintro e w1 ⟨x, hx, rfl, hr, hg⟩
    go_wp2_with fail
    refine (rdNext B g _ hr).mono ?_
    rintro e w2 ⟨y, hy, rfl, hr2, hg2⟩
    go_wp2_with fail
    go_ret
    exact ⟨(x * 256 + y) % n, Int.emod_nonneg _ (by omega), Int.emod_lt_of_pos _ (by omega), rfl, hr2, hg.trans hg2⟩
theorem lt_of_cell {w : World} {a : Addr} {v : Value} (h : w.cell? a = some v) : a.block < w.heap.size := by
  rcases Nat.lt_or_ge a.block w.heap.size with h1 | h1
  · exact h1
  · simp [World.cell?, Array.getElem?_eq_none h1] at h
theorem add_block (a : Addr) (i : Nat) : (a.add i).block = a.block := by unfold Addr.add; split <;> rfl
set_option maxHeartbeats 400000 in
theorem rdOpen (w : World) (a : Option Addr) (len cap : Nat) (zs : List Int) (hrow : Frame.IsRow .u8 w a len cap zs) :
    Calls Try.prog 63 #[.slice a len cap] w fun e w' => e = .returned (.pointer (some ⟨w.heap.size, 0, none⟩)) ∧ Rd w.heap.size w' w.heap.size ∧ w.grownBy w' none := by
  go_enter Try.func63, Try.ntmps63
  go_wp2
  go_ret
  have hlt : ∀ x, a = some x → 0 < zs.length → x.block < w.heap.size := by
    intro x hx hz
    rcases hrow with ⟨rfl, _⟩ | ⟨y, rfl, h1, h2, h3, h4, h5⟩
    · simp at hx
    · obtain rfl : y = x := by simpa using hx
      have := lt_of_cell (h4 0 hz)
      rwa [add_block] at this
  have hlen : len ≤ 9223372036854775807 := by
    rcases hrow with ⟨_, rfl, _⟩ | ⟨y, _, h1, h2, _⟩
    · omega
    · unfold maxLen at h2; omega
  refine ⟨rfl, ⟨Nat.le_refl _, by simp, a, len, cap, zs, 0, isRow_keep hrow fun x hx hz => Below.heap_alloc _ _ _ (hlt x hx hz), hlt, ?_, ?_, Nat.zero_le _, hlen, ?_⟩, World.grownBy_alloc _ _ _⟩
  · rw [World.cell?_alloc_at _ _ _ _ rfl]; rfl
  · rw [World.cell?_alloc_at _ _ _ _ rfl]; rfl
  · exact World.frozen?_alloc_at _ _ _ _ rfl
theorem rdOnce (B g : Nat) (w : World) (h : Rd B w g) (n : Int) (h1 : 1 ≤ n) (h2 : n ≤ 65536) :
    Calls Try.prog 95 #[.pointer (some ⟨g, 0, none⟩), .int .i64 n] w fun e w' => ∃ b : Bool, e = .returned (.bool b) ∧ Rd B w' g ∧ w.grownBy w' (some g) := by
  go_enter Try.func95, Try.ntmps95
  go_wp2_with fail
  refine (rdBelow B g _ h n h1 h2).mono ?_
  rintro e w1 ⟨x, hx, hx2, rfl, hr, hg⟩
  go_wp2_with fail
  go_ret
  exact ⟨_, rfl, hr, hg⟩
open Go.RowKit Go.WideShapes
theorem undrew {w w' : World} {r : Option Nat} (h : w.drew.grownBy w' r) : w.grownBy w' r := ⟨h.os, h.tape, h.output, h.size, h.block⟩
def strsOk (L K : Nat) (cs : List Value) : Bool := cs.all fun | .string s => decide (L ≤ s.size ∧ s.size ≤ K) | _ => false
theorem strs_cell {w w1 : World} {cs : List Value} {T g : Nat} (hg : (w.alloc (.cells cs.toArray T)).grownBy w1 (some g)) (hgw : g < w.heap.size) (L K : Nat) (hall : strsOk L K cs = true) (m : Nat) (hm : m < cs.length) :
    ∃ s : ByteArray, (L ≤ s.size ∧ s.size ≤ K) ∧ w1.cell? ⟨w.heap.size, m, none⟩ = some (.string s) := by
  have h1 := List.all_eq_true.1 hall cs[m] (List.getElem_mem hm)
  split at h1
  · rename_i s hs
    refine ⟨s, by simpa using h1, hg.cell ?_ (by simp; omega)⟩
    rw [World.cell?_alloc_at _ _ _ _ rfl]
    simp [List.getElem?_eq_getElem hm, hs]
  · simp at h1
set_option maxHeartbeats 400000 in
theorem rdContent (B g : Nat) (w : World) (h : Rd B w g) :
    Calls Try.prog 129 #[.pointer (some ⟨g, 0, none⟩)] w fun e w' => ∃ s : ByteArray, 0 ≤ s.size ∧ s.size ≤ 6 ∧ e = .returned (.string s) ∧ Rd B w' g ∧ w.grownBy w' (some g) := by
  have hgw := h.2.1
  go_enter Try.func129, Try.ntmps129
  go_wp2_with fail
  refine (rdBelow B g _ (h.alloc _) 6 (by omega) (by omega)).mono ?_
  rintro e w1 ⟨m, hm, hm2, rfl, hr, hg⟩
  obtain ⟨m, rfl⟩ := Int.eq_ofNat_of_zero_le hm
  obtain ⟨s, hs, hc⟩ := strs_cell hg hgw 0 6 rfl m (by simp; omega)
  go_wp2_with fail
  go_ret
  exact ⟨s, hs.1, hs.2, rfl, hr, ((World.grownBy_alloc _ _ _).trans hg)⟩
set_option maxHeartbeats 400000 in
theorem rdName (B g : Nat) (w : World) (h : Rd B w g) :
    Calls Try.prog 117 #[.pointer (some ⟨g, 0, none⟩)] w fun e w' => ∃ s : ByteArray, 1 ≤ s.size ∧ s.size ≤ 6 ∧ e = .returned (.string s) ∧ Rd B w' g ∧ w.grownBy w' (some g) := by
  have hgw := h.2.1
  go_enter Try.func117, Try.ntmps117
  go_wp2_with fail
  refine (rdBelow B g _ (h.alloc _) 5 (by omega) (by omega)).mono ?_
  rintro e w1 ⟨m, hm, hm2, rfl, hr, hg⟩
  obtain ⟨m, rfl⟩ := Int.eq_ofNat_of_zero_le hm
  obtain ⟨s, hs, hc⟩ := strs_cell hg hgw 1 6 rfl m (by simp; omega)
  go_wp2_with fail
  go_ret
  exact ⟨s, hs.1, hs.2, rfl, hr, ((World.grownBy_alloc _ _ _).trans hg)⟩
set_option maxHeartbeats 400000 in
theorem rdPred (B g : Nat) (w : World) (h : Rd B w g) :
    Calls Try.prog 116 #[.pointer (some ⟨g, 0, none⟩)] w fun e w' => ∃ s : ByteArray, 1 ≤ s.size ∧ s.size ≤ 6 ∧ e = .returned (.string s) ∧ Rd B w' g ∧ w.grownBy w' (some g) := by
  have hgw := h.2.1
  go_enter Try.func116, Try.ntmps116
  go_wp2_with fail
  refine (rdBelow B g _ (h.alloc _) 7 (by omega) (by omega)).mono ?_
  rintro e w1 ⟨m, hm, hm2, rfl, hr, hg⟩
  obtain ⟨m, rfl⟩ := Int.eq_ofNat_of_zero_le hm
  obtain ⟨s, hs, hc⟩ := strs_cell hg hgw 1 6 rfl m (by simp; omega)
  go_wp2_with fail
  go_ret
  exact ⟨s, hs.1, hs.2, rfl, hr, ((World.grownBy_alloc _ _ _).trans hg)⟩
set_option maxHeartbeats 400000 in
theorem rdThing (B g : Nat) (w : World) (h : Rd B w g) :
    Calls Try.prog 115 #[.pointer (some ⟨g, 0, none⟩)] w fun e w' => ∃ s : ByteArray, s.size ≤ 20 ∧ 1 ≤ s.size ∧ e = .returned (.string s) ∧ Rd B w' g ∧ w.grownBy w' (some g) := by
  have hgw := h.2.1
  go_enter Try.func115, Try.ntmps115
  go_wp2_with fail
  refine (rdBelow B g _ h 6 (by omega) (by omega)).mono ?_
  rintro e w1 ⟨m, hm, hm2, rfl, hr, hg⟩
  have hg1 := hr.2.1
  by_cases h0 : m = 0
  · subst h0
    go_wp2_with fail
    refine (rdBelow B g _ (hr.alloc _) 3 (by omega) (by omega)).mono ?_
    rintro e w2 ⟨m, hm, hm2, rfl, hr2, hg2⟩
    obtain ⟨m, rfl⟩ := Int.eq_ofNat_of_zero_le hm
    obtain ⟨s, hs, hc⟩ := strs_cell hg2 hg1 0 1 rfl m (by simp; omega)
    go_wp2_with fail
    go_ret
    exact ⟨_, by (simp [lit_size]; try omega), by (simp [lit_size]; try omega), rfl, hr2, (hg.trans (World.grownBy_alloc _ _ _)).trans hg2⟩
  by_cases h1 : m = 1
  · subst h1
    go_wp2_with fail
    refine (rdContent B g _ hr).mono ?_
    rintro e w2 ⟨s, hs1, hs, rfl, hr2, hg2⟩
    go_wp2_with fail
    refine (specEscaped s _ (by omega)).mono ?_
    rintro e w3 ⟨rfl, rfl⟩
    have hl := (esc_len s.data.toList).2
    rw [size_len] at hl
    have hl2 : (bs (esc s.data.toList)).size ≤ 12 := by rw [bs_size]; omega
    clear hl
    go_wp2_with fail
    go_ret
    exact ⟨_, by (simp [lit_size]; try omega), by (simp [lit_size]; try omega), rfl, hr2, hg.trans hg2⟩
  · have e0 : (m == 0) = false := by simpa using h0
    have e1 : (m == 1) = false := by simpa using h1
    go_wp2_with fail
    refine (rdName B g _ hr).mono ?_
    rintro e w2 ⟨s, hs1, hs, rfl, hr2, hg2⟩
    go_wp2_with fail
    go_ret
    exact ⟨s, by omega, hs1, rfl, hr2, hg.trans hg2⟩
open Go.RowKit Go.WideShapes
theorem grown_new {a b c : World} (h : a.grownBy b none) (k : b.grownBy c (some a.heap.size)) : a.grownBy c none := h.andThen k (by intro j hj; simp at hj; omega)
theorem isRow_grown {k : IntKind} {w w' : World} {a : Option Addr} {len cap : Nat} {zs : List Int} (h : Frame.IsRow k w a len cap zs) (hg : w.grownBy w' none) : Frame.IsRow k w' a len cap zs := by
  refine isRow_keep h fun x hx hz => hg.block _ ?_ (by simp)
  rcases h with ⟨rfl, _⟩ | ⟨y, rfl, h1, h2, h3, h4, h5⟩
  · simp at hx
  · obtain rfl : y = x := by simpa using hx
    have := lt_of_cell (h4 0 hz)
    rwa [add_block] at this
open Go.RowKit Go.WideShapes
open Go.RowKit Go.WideShapes
theorem Rd.setFar {B g : Nat} {w : World} (h : Rd B w g) {a : Addr} (h1 : B ≤ a.block) (h2 : a.block ≠ g) (u : Value) : Rd B (w.setCell a u) g :=
  h.keep (by simp [World.setCell]) (Below.heap_setCell w a u g (Ne.symm h2)) fun k hk => Below.heap_setCell w a u k (by omega)
set_option maxRecDepth 100000 in
set_option maxHeartbeats 1600000 in
theorem rdTriple (B g : Nat) (w : World) (h : Rd B w g) :
    Calls Try.prog 94 #[.pointer (some ⟨g, 0, none⟩)] w fun e w' => ∃ s p o : ByteArray, (1 ≤ s.size ∧ s.size ≤ 20) ∧ p.size ≤ 20 ∧ o.size ≤ 20 ∧ e = .returned (.agg #[.string s, .string p, .string o]) ∧ Rd B w' g ∧ w.grownBy w' (some g) := by
  have hgw := h.2.1
  have hB := h.1
  have R0 := Box.new w (.string ⟨#[]⟩) (.string ⟨#[]⟩) (.string ⟨#[]⟩) 34
  have G0 := World.grownBy_alloc w (.cells #[.string ⟨#[]⟩, .string ⟨#[]⟩, .string ⟨#[]⟩] 34) (some g)
  go_enter Try.func94, Try.ntmps94
  go_wp2_with fail
  refine (rdThing B g _ (h.alloc _)).mono ?_
  rintro e w1 ⟨s, hs2, hs1, rfl, hr1, hg1⟩
  have R1 := R0.grown hg1 (by simp; omega)
  have G1 := G0.trans hg1
  clear hg1 R0 G0
  go_wp2_with fail
  refine (rdPred B g _ hr1).mono ?_
  rintro e w2 ⟨p, _, hp, rfl, hr2, hg2⟩
  have R2 := R1.grown hg2 (by simp; omega)
  have G2 := G1.trans hg2
  clear hg2 R1 G1 hr1
  go_wp2_with fail
  refine (rdThing B g _ hr2).mono ?_
  rintro e w3 ⟨o, ho, _, rfl, hr3, hg3⟩
  have R3 := R2.grown hg3 (by simp; omega)
  have G3 := G2.trans hg3
  have l3 := R3.lt
  clear hg3 R2 G2 hr2
  have T3 := Box.new w3 (.string s) (.string p) (.string o) 34
  have i0 : (0 : Int) < s.size := by omega
  cases hq : ((s[0].toNat : Int) == 34)
  · go_wp2_with fail
    refine (rdOnce B g _ (hr3.alloc _) 60 (by omega) (by omega)).mono ?_
    rintro e w4 ⟨b, rfl, hr4, hg4⟩
    have R4 := (R3.alloc _).grown hg4 (by simp; omega)
    have T4 := T3.grown hg4 (by have := hr3.2.1; simp; omega)
    have G4 := (G3.trans (World.grownBy_alloc w3 _ _)).trans hg4
    clear hg4 R3 T3 G3 hr3 hq
    obtain ⟨c0, c1, c2⟩ := T4.cells
    obtain ⟨f0, f1, f2⟩ := T4.free
    obtain ⟨d0, d1, d2⟩ := R4.cells
    obtain ⟨k0, k1, k2⟩ := R4.free
    have hne : ¬ w.heap.size = w3.heap.size := by omega
    have hne2 : ¬ w3.heap.size = w.heap.size := by omega
    clear T4 R4
    cases b
    · go_wp2_with fail
      refine bodyPost_ret (v := .agg #[.string s, .string p, .string o]) (by simp [results, Try.results94, go_sem, *]) rfl ⟨s, p, o, ⟨hs1, hs2⟩, by omega, ho, rfl, ?_, ?_⟩
      · exact ((hr4.setFar (by simp; omega) (by simp; omega) _).setFar (by simp; omega) (by simp; omega) _).setFar (by simp; omega) (by simp; omega) _
      · exact grown_setNew (grown_setNew (grown_setNew G4 (by simp) _) (by simp) _) (by simp) _
    · go_wp2_with fail
      refine bodyPost_ret (v := .agg #[.string s, .string ⟨#[95, 58, 98]⟩, .string o]) (by simp [results, Try.results94, go_sem, *]) rfl ⟨s, _, o, ⟨hs1, hs2⟩, by simp [lit_size], ho, rfl, ?_, ?_⟩
      · exact (((hr4.setFar (by simp; omega) (by simp; omega) _).setFar (by simp; omega) (by simp; omega) _).setFar (by simp; omega) (by simp; omega) _).setFar (by simp; omega) (by simp; omega) _
      · exact grown_setNew (grown_setNew (grown_setNew (grown_setNew G4 (by simp; omega) _) (by simp) _) (by simp) _) (by simp) _
  · go_wp2_with fail
    refine (rdName B g _ (hr3.alloc _)).mono ?_
    rintro e w5 ⟨s', hs1', hs2', rfl, hr5, hg5⟩
    have R5 := (R3.alloc _).grown hg5 (by simp; omega)
    have T5 := T3.grown hg5 (by have := hr3.2.1; simp; omega)
    have G5 := (G3.trans (World.grownBy_alloc w3 _ _)).trans hg5
    have hg3 := hr3.2.1
    clear hg5 R3 T3 G3 hr3 hq i0
    obtain ⟨c0, c1, c2⟩ := T5.cells
    obtain ⟨f0, f1, f2⟩ := T5.free
    have hne : ¬ w.heap.size = w3.heap.size := by omega
    have hne2 : ¬ w3.heap.size = w.heap.size := by omega
    have T6 := T5.set0 (.string s')
    have R6 := R5.far (a := ⟨w3.heap.size, 0, none⟩) (by simp; omega) (.string s')
    have hr6 := hr5.setFar (a := ⟨w3.heap.size, 0, none⟩) (by simp; omega) (by simp; omega) (.string s')
    have G6 := grown_setNew G5 (a := ⟨w3.heap.size, 0, none⟩) (by simp; omega) (.string s')
    clear T5 R5 G5 hr5
    go_wp2_with fail
    refine (rdOnce B g _ hr6 60 (by omega) (by omega)).mono ?_
    rintro e w4 ⟨b, rfl, hr4, hg4⟩
    have R4 := R6.grown hg4 (by simp; omega)
    have T4 := T6.grown hg4 (by simp; omega)
    have G4 := G6.trans hg4
    clear hg4 R6 T6 G6 hr6 c0 c1 c2 f0 f1 f2
    obtain ⟨c0, c1, c2⟩ := T4.cells
    obtain ⟨f0, f1, f2⟩ := T4.free
    obtain ⟨d0, d1, d2⟩ := R4.cells
    obtain ⟨k0, k1, k2⟩ := R4.free
    clear T4 R4
    cases b
    · go_wp2_with fail
      refine bodyPost_ret (v := .agg #[.string s', .string p, .string o]) (by simp [results, Try.results94, go_sem, *]) rfl ⟨s', p, o, ⟨hs1', by omega⟩, by omega, ho, rfl, ?_, ?_⟩
      · exact ((hr4.setFar (by simp; omega) (by simp; omega) _).setFar (by simp; omega) (by simp; omega) _).setFar (by simp; omega) (by simp; omega) _
      · exact grown_setNew (grown_setNew (grown_setNew G4 (by simp) _) (by simp) _) (by simp) _
    · go_wp2_with fail
      refine bodyPost_ret (v := .agg #[.string s', .string ⟨#[95, 58, 98]⟩, .string o]) (by simp [results, Try.results94, go_sem, *]) rfl ⟨s', _, o, ⟨hs1', by omega⟩, by simp [lit_size], ho, rfl, ?_, ?_⟩
      · exact (((hr4.setFar (by simp; omega) (by simp; omega) _).setFar (by simp; omega) (by simp; omega) _).setFar (by simp; omega) (by simp; omega) _).setFar (by simp; omega) (by simp; omega) _
      · exact grown_setNew (grown_setNew (grown_setNew (grown_setNew G4 (by simp; omega) _) (by simp) _) (by simp) _) (by simp) _
end Go.Proofs.Ythnpchcfjkepaaa
/- Drawn graphs are small; what lies far stays while one draws. -/
namespace Go.Proofs.Ythnpchcfjkepaaa
open Go.RowKit Go.WideShapes
def SmG (ts : List Tri3) : Prop := ts.length ≤ 81 ∧ ∀ t ∈ ts, t.1.size ≤ 20 ∧ t.2.1.size ≤ 20 ∧ t.2.2.size ≤ 20
theorem SmG.sm {ts : List Tri3} (h : SmG ts) : Sm ts := fun t ht => by have := h.2 t ht; omega
theorem SmG.maxLen {ts : List Tri3} (h : SmG ts) : ∀ t ∈ ts, t.1.size ≤ maxLen ∧ t.2.1.size ≤ maxLen ∧ t.2.2.size ≤ maxLen := fun t ht => by have := h.2 t ht; unfold Go.maxLen; omega
theorem own_rd {B C g : Nat} {w w' : World} {v : Value} {ts : List Tri3} (h : OwnT B w v ts) (hg : w.grownBy w' (some g)) (hBg : g < C) (hC : C ≤ B) : OwnT B w' v ts := by
  refine World.ownsRow.kept h hg ?_
  rcases hv : v.ownBlock with _ | q
  · exact .inl rfl
  · refine .inr fun e => ?_
    have := (World.ownsRow.lt h q hv).1
    cases e
    omega
theorem grown_off {a b c : World} {row r : Option Nat} (h : a.grownBy b row) (k : b.grownBy c r) (hr : ∀ j, r = some j → a.heap.size ≤ j) : a.grownBy c row :=
  ⟨k.os.trans h.os, k.tape.trans h.tape, k.output.trans h.output, Nat.le_trans h.size k.size, fun i hi hne => (k.block i (Nat.lt_of_lt_of_le hi h.size) fun e => by have := hr i e.symm; omega).trans (h.block i hi hne)⟩
end Go.Proofs.Ythnpchcfjkepaaa
