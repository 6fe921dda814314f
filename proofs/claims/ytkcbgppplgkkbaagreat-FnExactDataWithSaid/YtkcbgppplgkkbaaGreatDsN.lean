/- Datasets: names that rise; a map of them. -/
import Derived.Test.YtkcbgppplgkkbaaGreatDsM
import Derived.Test.YtkcbgppplgkkbaaGreatDokM
import Derived.Test.YtkcbgppplgkkbaaGreatNamC
namespace Go.Proofs.YtkcbgppplgkkbaaGreat
open Go.Maps
abbrev nmT (r : NamV) : Txt := r.1.data.toList
theorem lessN_is (t u : NamV) : lessN t u = lessS (nmT t) (nmT u) := by unfold lessN lessS; rw [ByteArray.toList_eq, ByteArray.toList_eq]
theorem rising_names (ts : List NamV) : ∀ k, k ≤ ts.length → gUpto namT lessN ts k = true → RisingS ((ts.take k).map nmT)
  | 0, _, _ => by simp [RisingS]
  | k + 1, hk, h => by
    rw [gUpto_succ, Bool.and_eq_true] at h
    have ih := rising_names ts k (by omega) h.1
    have ht : ts[k]? = some (ts[k]'(by omega)) := List.getElem?_eq_getElem _
    have e : ts.take (k + 1) = ts.take k ++ [ts[k]'(by omega)] := List.take_succ_eq_append_getElem (by omega)
    have h2 := h.2
    generalize ts[k]'(by omega) = t at ht e
    rw [e, List.map_append, List.map_singleton]
    refine List.pairwise_append.2 ⟨ih, List.pairwise_singleton _ _, fun a ha b hb => ?_⟩
    obtain rfl : b = nmT t := by simpa using hb
    rcases k with _ | j
    · simp at ha
    · have hu : ts[j]? = some (ts[j]'(by omega)) := List.getElem?_eq_getElem _
      rw [gAt_next (by omega) ht hu, Bool.and_eq_true] at h2
      have e2 : ts.take (j + 1) = ts.take j ++ [ts[j]'(by omega)] := List.take_succ_eq_append_getElem (by omega)
      have hl := h2.2
      rw [lessN_is] at hl
      rw [e2, List.map_append, List.map_singleton] at ih ha
      rcases List.mem_append.1 ha with ha | ha
      · exact lessS_trans ((List.pairwise_append.1 ih).2.2 a ha _ (by simp)) hl
      · obtain rfl : a = nmT (ts[j]'(by omega)) := by simpa using ha
        exact hl
theorem dataOk_parts {ts : List NamV} (h : dataOk ts = true) : ts.length ≤ 6 ∧ RisingS (ts.map nmT) := by
  unfold dataOk at h
  rw [Bool.and_eq_true, decide_eq_true_eq] at h
  have := rising_names ts ts.length (Nat.le_refl _) h.2
  rw [List.take_of_length_le (Nat.le_refl _)] at this
  exact ⟨h.1, this⟩
/-- The map's entries: each name with its graph's slice. -/
def kvsD : List NamV → List Value → List (Txt × Value)
  | t :: ts, u :: us => (nmT t, u) :: kvsD ts us
  | _, _ => []
theorem kvsD_snoc (t : NamV) (u : Value) : ∀ (ts : List NamV) (us : List Value), us.length = ts.length → kvsD (ts ++ [t]) (us ++ [u]) = kvsD ts us ++ [(nmT t, u)]
  | [], [], _ => rfl
  | [], _ :: _, h => by simp at h
  | _ :: _, [], h => by simp at h
  | s :: ts, v :: us, h => by
    have := kvsD_snoc t u ts us (by simpa using h)
    simp only [List.cons_append, kvsD, this]
theorem kvsD_keys : ∀ (ts : List NamV) (us : List Value), us.length = ts.length → (kvsD ts us).map Prod.fst = ts.map nmT
  | [], [], _ => rfl
  | [], _ :: _, h => by simp at h
  | _ :: _, [], h => by simp at h
  | s :: ts, v :: us, h => by
    have := kvsD_keys ts us (by simpa using h)
    simp only [kvsD, List.map_cons, this]
theorem kvsD_mem : ∀ (ts : List NamV) (us : List Value), us.length = ts.length → ∀ (i : Nat) (t : NamV) (u : Value), ts[i]? = some t → us[i]? = some u → (nmT t, u) ∈ kvsD ts us
  | [], _, _, i, t, u, h, _ => by simp at h
  | _ :: _, [], h, _, _, _, _, _ => by simp at h
  | s :: ts, v :: us, h, i, t, u, ht, hu => by
    cases i with
    | zero => simp at ht hu; subst ht hu; simp [kvsD]
    | succ n => exact List.mem_cons_of_mem _ (kvsD_mem ts us (by simpa using h) n t u (by simpa using ht) (by simpa using hu))
theorem addD_new {kvs : List (Txt × Value)} {t : Txt} {v : Value} (h : t ∉ kvs.map Prod.fst) : addD kvs t v = kvs ++ [(t, v)] := by unfold addD; rw [if_neg h]
theorem rising_new {ts : List NamV} {k : Nat} {t : NamV} (h : RisingS (ts.map nmT)) (ht : ts[k]? = some t) : nmT t ∉ (ts.take k).map nmT := by
  intro hm
  have hk := (List.getElem?_eq_some_iff.1 ht).1
  have e : ts = ts.take k ++ (t :: ts.drop (k + 1)) := by
    conv => lhs; rw [← List.take_append_drop k ts]
    rw [List.drop_eq_getElem_cons hk, (List.getElem?_eq_some_iff.1 ht).2]
  rw [e, List.map_append] at h
  have := (List.pairwise_append.1 h).2.2 _ hm (nmT t) (by simp)
  rw [lessS_irrefl] at this
  cases this
end Go.Proofs.YtkcbgppplgkkbaaGreat
