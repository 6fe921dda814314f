/- Pairs that are marked: see PairK; with the rows' sizes. -/
import Derived.Test.YtiajdnhmjdfeeaaGreatG12

/- The exact laws' own copy of a slice of rows, what it owns, and texts copied. -/
namespace Go.Proofs.YtiajdnhmjdfeeaaGreat
open Go.RowKit Go.WideShapes
theorem infoRow : (Tryz.prog.info? 50).map (fun i => (i.zero, i.size, i.bytes)) = some (some (.slice none 0 0), 1, 24) := by kernel_rfl
theorem ownP_kept {B : Nat} {w w' : World} {v : Value} {ts : RowV} (h : OwnP B w v ts) (hb : Below w.heap.size w w') : OwnP B w' v ts := World.ownsRow.kept h (grown_of_below hb) (by
  rcases hv : v.ownBlock with _ | i
  · exact .inl rfl
  · exact .inr (by simp))
theorem ownP_base {B C : Nat} {w : World} {v : Value} {ts : RowV} (h : OwnP B w v ts) (hc : C ≤ B) : OwnP C w v ts := by
  obtain ⟨h1, h2⟩ := h
  refine ⟨h1, ?_⟩
  rcases h2 with h2 | ⟨g, cap, cur, e, hB, r⟩
  · exact .inl h2
  · exact .inr ⟨g, cap, cur, e, Nat.le_trans hc hB, r⟩
theorem ownP_set {B : Nat} {w : World} {v : Value} {ts : RowV} (h : OwnP B w v ts) {g : Nat} (hg : g < B) (j : Nat) (u : Value) : OwnP B (w.setCell ⟨g, j, none⟩ u) v ts := by
  refine World.ownsRow.kept h (row := some g) ⟨rfl, rfl, rfl, by simp [World.setCell], fun k _ hne => Below.heap_setCell _ _ _ _ (fun e => hne (by rw [e]))⟩ ?_
  rcases hv : v.ownBlock with _ | q
  · exact .inl rfl
  · exact .inr (fun e => by cases e; have := (World.ownsRow.lt h g hv).1; omega)
theorem setR {xs l : List Value} {k : Nat} (a : Value) (h : xs.take k = l) (hl : k < xs.length) : (xs.set k a).take (k + 1) = l ++ [a] := by
  subst h
  rw [List.take_add_one, List.take_set_of_le (Nat.le_refl _), List.getElem?_set_self hl]; rfl
/-- Rows, each in a block of its own, from B on. -/
def InnR (B : Nat) (w : World) (rs : List RowV) (us : List Value) : Prop :=
  us.length = rs.length ∧ (∀ (i : Nat) (u : Value) (r : RowV), us[i]? = some u → rs[i]? = some r → OwnP B w u r) ∧ us.Pairwise (fun u v => ∀ j, u.ownBlock = some j → v.ownBlock ≠ some j)
theorem InnR.nil (B : Nat) (w : World) : InnR B w [] [] := ⟨rfl, fun i u t h => by simp at h, .nil⟩
theorem InnR.next {B : Nat} {w w' : World} {rs : List RowV} {us : List Value} (h : InnR B w rs us) (hb : Below w.heap.size w w') : InnR B w' rs us := ⟨h.1, fun i u t hu ht => ownP_kept (h.2.1 i u t hu ht) hb, h.2.2⟩
theorem InnR.set {B : Nat} {w : World} {rs : List RowV} {us : List Value} (h : InnR B w rs us) {g : Nat} (hg : g < B) (j : Nat) (q : Value) : InnR B (w.setCell ⟨g, j, none⟩ q) rs us := ⟨h.1, fun i u t hu ht => ownP_set (h.2.1 i u t hu ht) hg j q, h.2.2⟩
theorem InnR.snoc {B : Nat} {w : World} {C : Nat} {rs : List RowV} {us : List Value} {r : RowV} {u : Value} (h : InnR B w rs us) (hl : ∀ v ∈ us, ∀ j, v.ownBlock = some j → j < C) (hBC : B ≤ C) (ho : OwnP C w u r) : InnR B w (rs ++ [r]) (us ++ [u]) := by
  obtain ⟨h1, h2, h3⟩ := h
  refine ⟨by simp [h1], fun i v s hv hs => ?_, List.pairwise_append.2 ⟨h3, List.pairwise_singleton _ _, fun v hv v' hv' j hj e => ?_⟩⟩
  · rcases Nat.lt_or_ge i us.length with g | g
    · rw [List.getElem?_append_left g] at hv
      rw [List.getElem?_append_left (by omega)] at hs
      exact h2 i v s hv hs
    · have hi : i = us.length := by
        have := (List.getElem?_eq_some_iff.1 hv).1
        simp at this; omega
      subst hi
      rw [List.getElem?_append_right (Nat.le_refl _)] at hv
      rw [h1, List.getElem?_append_right (Nat.le_refl _)] at hs
      simp at hv hs
      subst hv hs
      exact ownP_base ho hBC
  · obtain rfl : v' = u := by simpa using hv'
    have := hl v hv j hj
    have := (World.ownsRow.lt ho j e).1
    omega
theorem InnR.lt {B : Nat} {w : World} {rs : List RowV} {us : List Value} (h : InnR B w rs us) : ∀ v ∈ us, ∀ j, v.ownBlock = some j → B ≤ j ∧ j < w.heap.size := by
  intro v hv j hj
  obtain ⟨i, hi⟩ := List.mem_iff_getElem?.1 hv
  have hil := (List.getElem?_eq_some_iff.1 hi).1
  have ht : rs[i]? = some (rs[i]'(by have := h.1; omega)) := List.getElem?_eq_getElem _
  exact World.ownsRow.lt (h.2.1 i v _ hi ht) j hj
/-- The call owns a slice of rows and each of these, no two in one block. -/
def OwnRs (B : Nat) (w : World) (v : Value) (rs : List RowV) : Prop := ∃ us, w.ownsRow B 50 1 v rs.length us ∧ InnR B w rs us ∧ ∀ u ∈ us, ∀ j, u.ownBlock = some j → v.ownBlock ≠ some j
theorem OwnRs.is {B : Nat} {w : World} {v : Value} {rs : List RowV} (h : OwnRs B w v rs) (hm : ∀ r ∈ rs, ∀ t ∈ r, t.1.size ≤ maxLen ∧ t.2.size ≤ maxLen) : ∃ a cap, v = .slice a rs.length cap ∧ IsRows w a rs.length cap rs := by
  obtain ⟨us, ho, hi, _⟩ := h
  have h0 := ho
  obtain ⟨_, hc⟩ := ho
  rcases hc with ⟨rfl, hl⟩ | ⟨g, cap, cur, rfl, _, _, h1, h2, _⟩
  · exact ⟨none, 0, by rw [hl], .inl ⟨rfl, hl, rfl, List.length_eq_zero_iff.1 hl⟩⟩
  · refine ⟨_, cap, rfl, .inr ⟨_, rfl, h1, h2, rfl, fun i r hr => ?_⟩⟩
    have hil : i < rs.length := (List.getElem?_eq_some_iff.1 hr).1
    have hu : us[i]? = some (us[i]'(by have := hi.1; omega)) := List.getElem?_eq_getElem _
    have oi := hi.2.1 i _ r hu hr
    obtain ⟨a', c', ev, ii⟩ := oi.is (hm r (List.mem_of_getElem? hr))
    refine ⟨a', r.length, c', ?_, ii⟩
    rw [add_plain, Nat.zero_add]
    exact (h0.cellAt i (by omega)).trans (by rw [hu, ev])
theorem OwnRs.kept {B : Nat} {w w' : World} {v : Value} {rs : List RowV} (h : OwnRs B w v rs) (hb : Below w.heap.size w w') : OwnRs B w' v rs := by
  obtain ⟨us, ho, hi, hn⟩ := h
  exact ⟨us, ho.kept (grown_of_below hb) (by
    rcases hv : v.ownBlock with _ | i
    · exact .inl rfl
    · exact .inr (by simp)), hi.next hb, hn⟩
end Go.Proofs.YtiajdnhmjdfeeaaGreat
/- Rows that are marked, and their second look. -/
namespace Go.Proofs.YtiajdnhmjdfeeaaGreat
open Go.RowKit Go.WideShapes
/-- Only what lies between two blocks, and what is new, is changed. -/
def BetwR (B C : Nat) (w w' : World) : Prop := Below B w w' ∧ ∀ k, C ≤ k → k < w.heap.size → w'.heap[k]? = w.heap[k]?
theorem BetwR.refl (B C : Nat) (w : World) : BetwR B C w w := ⟨Below.refl _ _, fun _ _ _ => rfl⟩
theorem BetwR.grown {B C : Nat} {w wr w' : World} {row : Option Nat} (h : BetwR B C w wr) (hg : wr.grownBy w' row) (hB : B ≤ w.heap.size) (hr : ∀ j, row = some j → B ≤ j ∧ j < C) : BetwR B C w w' :=
  ⟨h.1.grown hg (Nat.le_trans hB h.1.size) (fun j hj => (hr j hj).1), fun k hk hl => (hg.block k (Nat.lt_of_lt_of_le hl h.1.size) (fun e => by have := hr k e.symm; omega)).trans (h.2 k hk hl)⟩
/-- The marks of rows, one behind the other. -/
def marksRs (k0 : Nat) : List RowV → List RowV
  | [] => []
  | r :: rs => marksPK k0 r.length :: marksRs (k0 + 2 * r.length) rs
theorem marksRs_len (rs : List RowV) : ∀ k0, (marksRs k0 rs).length = rs.length := by
  induction rs with
  | nil => intro k0; rfl
  | cons r rs ih => intro k0; simp [marksRs, ih]
theorem marksRs_at : ∀ (rs : List RowV) (k0 i : Nat) (r : RowV), rs[i]? = some r → (marksRs k0 rs)[i]? = some (marksPK (k0 + 2 * totR (rs.take i)) r.length)
  | [], _, i, r, h => by simp at h
  | s :: rs, k0, 0, r, h => by simp at h; subst h; simp [marksRs, totR]
  | s :: rs, k0, i + 1, r, h => by
    have := marksRs_at rs (k0 + 2 * s.length) i r (by simpa using h)
    simp only [marksRs, List.getElem?_cons_succ, List.take_succ_cons]
    rw [this]
    have e : totR (s :: rs.take i) = s.length + totR (rs.take i) := by simp [totR]
    rw [e]
    congr 2
    omega
set_option maxRecDepth 100000 in
set_option maxHeartbeats 1600000 in
theorem markRows (B C n c : Nat) (g : Nat) (rs : List RowV) (us : List Value) (w : World) (h : w.ownsRow B 50 1 (.slice (some ⟨g, 0, none⟩) n c) n us) (hi : InnR B w rs us) (hne : ∀ u ∈ us, ∀ j, u.ownBlock = some j → j ≠ g) (hC : ∀ u ∈ us, ∀ j, u.ownBlock = some j → j < C) (hBw : B ≤ w.heap.size) (hl : n + totR rs ≤ 1048576) (hrs : rs.length = n) (k0 : Nat) (hk0 : 0 < k0) (hk1 : k0 ≤ 4000000) :
    Calls Tryz.prog 19 #[.slice (some ⟨g, 0, none⟩) n c, .int .i64 k0] w fun e w' => e = .returned (.int .i64 ((k0 + 2 * totR rs : Nat) : Int)) ∧ w'.ownsRow B 50 1 (.slice (some ⟨g, 0, none⟩) n c) n us ∧ InnR B w' (marksRs k0 rs) us ∧ BetwR B C w w' := by
  have HT := Lib.hid hrs
  have HC := Lib.hid hC
  have HNE := Lib.hid hne
  have HUL : Hid (us.length = n) := Lib.hid (by have := hi.1; omega)
  have HPW := Lib.hid hi.2.2
  have HI : Hid (∀ j u r, 0 ≤ j → us[j]? = some u → rs[j]? = some r → OwnP B w u r) := Lib.hid (fun j u t _ hu ht => hi.2.1 j u t hu ht)
  have HD : Hid (∀ j u r, j < 0 → us[j]? = some u → (marksRs k0 rs)[j]? = some r → OwnP B w u r) := Lib.hid (fun j u r hj => by omega)
  have O0 := h
  clear h hi hC hrs hne
  go_enter Tryz.func19, Tryz.ntmps19
  go_wp2_with fail
  go_loopw [1, 5] (fun q i wr => ∃ k : Nat, k ≤ n ∧ i = .int .i64 k ∧ q = .int .i64 ((k0 + 2 * totR (rs.take k) : Nat) : Int) ∧ Hid (wr.ownsRow B 50 1 (.slice (some ⟨g, 0, none⟩) n c) n us) ∧ Hid (∀ j u r, k ≤ j → us[j]? = some u → rs[j]? = some r → OwnP B wr u r) ∧ Hid (∀ j u r, j < k → us[j]? = some u → (marksRs k0 rs)[j]? = some r → OwnP B wr u r) ∧ Hid (BetwR B C w wr)) (fun _ i _ => n - (intOf i).toNat)
  case atStart => exact ⟨0, Nat.zero_le _, rfl, by simp [totR], Lib.hid O0, HI, HD, Lib.hid (BetwR.refl _ _ _)⟩
  case round =>
    obtain ⟨k, hk, rfl, rfl, hown, hin, hdn, hbt⟩ := hrel
    clear O0 HI HD
    have hk6 : (0 : Int) ≤ (k : Int) := by omega
    by_cases hlt : k < n
    · have hk7 : (k : Int) < (n : Int) := by omega
      have hu : us[k]? = some (us[k]'(by have := HUL.out; omega)) := List.getElem?_eq_getElem _
      have ht : rs[k]? = some (rs[k]'(by have := HT.out; omega)) := List.getElem?_eq_getElem _
      have hcu := HC.out _ (List.mem_of_getElem? hu)
      have hnu := HNE.out _ (List.mem_of_getElem? hu)
      have hou := hin.out k _ _ (Nat.le_refl _) hu ht
      have hpw : Hid (∀ j u', j ≠ k → us[j]? = some u' → ∀ b, (us[k]'(by have := HUL.out; omega)).ownBlock = some b → u'.ownBlock ≠ some b) := Lib.hid (fun j u' hj hu' b hb => by
        have hjl := (List.getElem?_eq_some_iff.1 hu').1
        have hkl : k < us.length := by have := HUL.out; omega
        have eu := (List.getElem?_eq_some_iff.1 hu').2
        rcases Nat.lt_or_gt_of_ne hj with h1 | h1
        · intro e
          have := (List.pairwise_iff_getElem.1 HPW.out) j k hjl hkl h1 b (by rw [eu]; exact e)
          exact this hb
        · have := (List.pairwise_iff_getElem.1 HPW.out) k j hkl hjl h1 b hb
          rw [eu] at this
          exact this)
      have HS : Hid (totR (rs.take (k + 1)) = totR (rs.take k) + (rs[k]'(by have := HT.out; omega)).length) := Lib.hid (by rw [List.take_succ_eq_append_getElem (by have := HT.out; omega), totR_snoc])
      have HMK := Lib.hid (marksRs_at rs k0 k _ ht)
      have hle := totR_take rs (k + 1)
      have c0 : wr.cell? ⟨g, k, none⟩ = some (us[k]'(by have := HUL.out; omega)) := by rw [hown.out.cellAt _ (by omega), hu]
      generalize us[k]'(by have := HUL.out; omega) = u at hu hcu hnu hou hpw c0
      generalize rs[k]'(by have := HT.out; omega) = r at ht hou HS HMK
      have hrl : r.length ≤ 1048576 := by have := HS.out; omega
      obtain ⟨ua, un, uc, rfl⟩ : ∃ a n c, u = .slice a n c := by
        rcases hou.2 with ⟨rfl, _⟩ | ⟨g', cap, cur, rfl, _⟩
        · exact ⟨_, _, _, rfl⟩
        · exact ⟨_, _, _, rfl⟩
      have MK := markPairK B (.slice ua un uc) r wr hou hrl (k0 + 2 * totR (rs.take k)) (by omega) (by have := HS.out; omega)
      obtain ⟨q, hq⟩ : ∃ q : Nat, k0 + 2 * totR (rs.take k) = q := ⟨_, rfl⟩
      rw [hq] at MK HMK
      have HQ : Hid (k0 + 2 * totR (rs.take (k + 1)) = q + 2 * r.length) := Lib.hid (by have := HS.out; omega)
      rw [hq]
      have HM := Lib.hid MK
      have HU := Lib.hid hu
      have HLT := Lib.hid (World.ownsRow.lt hou)
      have HCU := Lib.hid hcu
      have HNU := Lib.hid hnu
      clear MK hou hq hle HS ht hu hcu hnu
      go_wp2_with fail
      refine HM.out.mono ?_
      rintro e w1 ⟨rfl, o1, hg⟩
      have O9 : Hid (w1.ownsRow B 50 1 (.slice (some ⟨g, 0, none⟩) n c) n us) := Lib.hid (hown.out.kept hg (.inr (by
        intro e
        exact HNU.out g (by rw [← e]; simp [Value.ownBlock]) rfl)))
      have T9 := Lib.hid (hbt.out.grown hg hBw (fun j hj => ⟨(HLT.out j hj).1, HCU.out j hj⟩))
      have keep : ∀ (j : Nat) (u' : Value) (r' : RowV), j ≠ k → us[j]? = some u' → OwnP B wr u' r' → OwnP B w1 u' r' := fun j u' r' hj hu' ho => World.ownsRow.kept ho hg (by
        rcases hb : u'.ownBlock with _ | b
        · exact .inl rfl
        · exact .inr (fun e => hpw.out j u' hj hu' b e.symm hb))
      have N9 : Hid (∀ j u r, k + 1 ≤ j → us[j]? = some u → rs[j]? = some r → OwnP B w1 u r) := Lib.hid (fun j u r hj hu ht => keep j u r (by omega) hu (hin.out j u r (by omega) hu ht))
      have D9 : Hid (∀ j u r, j < k + 1 → us[j]? = some u → (marksRs k0 rs)[j]? = some r → OwnP B w1 u r) := Lib.hid (fun j u r' hj hu ht => by
        by_cases e : j = k
        · subst e
          rw [HU.out] at hu
          cases hu
          rw [HMK.out] at ht
          cases ht
          exact o1
        · exact keep j u r' e hu (hdn.out j u r' (by omega) hu ht))
      clear hg o1 keep hown hin hdn hbt HM
      go_wp2_with fail
      go_roundw
      case rel => exact ⟨k + 1, by omega, by go_num, (by rw [HQ.out]; congr 1), O9, N9, D9, T9⟩
      case measure => simp [intOf]; omega
    · obtain rfl : k = n := by omega
      have e : rs.take k = rs := List.take_of_length_le (by rw [HT.out]; exact Nat.le_refl _)
      rw [e]
      go_wp2_with fail
      go_ret
      refine ⟨rfl, hown.out, ⟨by rw [marksRs_len, HT.out]; exact HUL.out, fun i u r hu hr => hdn.out i u r ?_ hu hr, HPW.out⟩, hbt.out⟩
      have := (List.getElem?_eq_some_iff.1 hu).1
      have := HUL.out
      omega
set_option maxRecDepth 100000 in
set_option maxHeartbeats 1600000 in
theorem heldRows (a : Option Addr) (n cap : Nat) (rs : List RowV) (w : World) (k0 : Nat) (h : IsRows w a n cap (marksRs k0 rs)) (hl : n + totR rs ≤ 1048576) (hk0 : 0 < k0) (hk1 : k0 ≤ 4000000) :
    Calls Tryz.prog 20 #[.slice a n cap, .int .i64 k0] w fun e w' => e = .returned (.int .i64 ((k0 + 2 * totR rs : Nat) : Int)) ∧ Below w.heap.size w w' := by
  have hlen : rs.length = n := by have := h.len; rwa [marksRs_len] at this
  have H := Lib.hid h
  have HT := Lib.hid hlen
  clear h hlen
  go_enter Tryz.func20, Tryz.ntmps20
  go_wp2_with fail
  go_loopw [1, 5] (fun q i wr => ∃ k : Nat, k ≤ n ∧ i = .int .i64 k ∧ q = .int .i64 ((k0 + 2 * totR (rs.take k) : Nat) : Int) ∧ Below w.heap.size w wr) (fun _ i _ => n - (intOf i).toNat)
  case atStart => exact ⟨0, Nat.zero_le _, rfl, by simp [totR], Below.refl _ _⟩
  case round =>
    obtain ⟨k, hk, rfl, rfl, hnx⟩ := hrel
    have hk6 : (0 : Int) ≤ (k : Int) := by omega
    by_cases hlt : k < n
    · have hk7 : (k : Int) < (n : Int) := by omega
      obtain ⟨b, off, rfl, hb, _, _, _, hc⟩ := (H.out.next hnx).cells (by omega)
      have ht : rs[k]? = some (rs[k]'(by have := HT.out; omega)) := List.getElem?_eq_getElem _
      obtain ⟨ua, un, uc, c0, hz⟩ := hc k _ (marksRs_at rs k0 k _ ht)
      have HS : Hid (totR (rs.take (k + 1)) = totR (rs.take k) + (rs[k]'(by have := HT.out; omega)).length) := Lib.hid (by rw [List.take_succ_eq_append_getElem (by have := HT.out; omega), totR_snoc])
      have hle := totR_take rs (k + 1)
      generalize rs[k]'(by have := HT.out; omega) = r at ht hz HS
      obtain rfl : un = r.length := by have := hz.len; rw [marksPK_len] at this; exact this.symm
      have HK := heldPairK ua r.length uc wr (k0 + 2 * totR (rs.take k)) hz (by have := HS.out; omega) (by omega) (by have := HS.out; omega)
      obtain ⟨q, hq⟩ : ∃ q : Nat, k0 + 2 * totR (rs.take k) = q := ⟨_, rfl⟩
      rw [hq] at HK
      have HQ : Hid (k0 + 2 * totR (rs.take (k + 1)) = q + 2 * r.length) := Lib.hid (by have := HS.out; omega)
      rw [hq]
      have HH := Lib.hid HK
      have hn0 : ¬ ((q + 2 * r.length : Nat) : Int) < 0 := by omega
      clear HK hq hle HS ht hz hc
      go_wp2_with fail
      refine HH.out.mono ?_
      rintro e w1 ⟨rfl, hb1⟩
      have B1 := hnx.trans (hb1.mono hnx.size)
      clear hb1 hnx HH c0
      go_wp2_with fail
      go_roundw
      case rel => exact ⟨k + 1, by omega, by go_num, (by rw [HQ.out]; congr 1), B1⟩
      case measure => simp [intOf]; omega
    · obtain rfl : k = n := by omega
      have e : rs.take k = rs := List.take_of_length_le (by rw [HT.out]; exact Nat.le_refl _)
      rw [e]
      go_wp2_with fail
      go_ret
      exact ⟨rfl, hnx⟩
end Go.Proofs.YtiajdnhmjdfeeaaGreat
