/- With and Without at slices that are held by their triples, and what holds of the two together. -/
import Derived.Test.YtinmjbgljgljkaaDrawW
namespace Go.Proofs.Ytinmjbgljgljkaa
open Go.RowKit Go.WideShapes
theorem implWithG {v : Value} {ts : List Tri3} {w : World} (h : GotG w v ts) {s p o : ByteArray} (hs : s.size ≤ 20) (hp : p.size ≤ 20) (ho : o.size ≤ 20) : Calls Try.prog 26 #[v, .agg #[.string s, .string p, .string o]] w (GotRes (withT ts (s, p, o)) w) := by
  obtain ⟨x, c, rfl, hi, hp', hsm⟩ := h
  exact (implWith x _ c ts s p o w hi hsm.sm (by omega) (by omega) (by omega)).mono fun e w' g => gotRes (hsm.with_ (t := (s, p, o)) ⟨hs, hp, ho⟩).1 g
theorem specWithG {v : Value} {ts : List Tri3} {w : World} (h : GotG w v ts) {s p o : ByteArray} (hs : s.size ≤ 20) (hp : p.size ≤ 20) (ho : o.size ≤ 20) : Calls Try.prog 27 #[v, .agg #[.string s, .string p, .string o]] w (GotRes (withT ts (s, p, o)) w) := by
  obtain ⟨x, c, rfl, hi, hp', hsm⟩ := h
  exact (specWith x _ c ts s p o w hi hp' hsm.sm (by omega) (by omega) (by omega)).mono fun e w' g => gotRes (hsm.with_ (t := (s, p, o)) ⟨hs, hp, ho⟩).1 g
theorem implWithoutG {v : Value} {ts : List Tri3} {w : World} (h : GotG w v ts) {s p o : ByteArray} (hs : s.size ≤ 20) (hp : p.size ≤ 20) (ho : o.size ≤ 20) : Calls Try.prog 28 #[v, .agg #[.string s, .string p, .string o]] w (GotRes (withoutT ts (s, p, o)) w) := by
  obtain ⟨x, c, rfl, hi, hp', hsm⟩ := h
  exact (implWithout x _ c ts s p o w hi hsm.sm (by omega) (by omega) (by omega)).mono fun e w' g => gotRes hsm.less g
theorem specWithoutG {v : Value} {ts : List Tri3} {w : World} (h : GotG w v ts) {s p o : ByteArray} (hs : s.size ≤ 20) (hp : p.size ≤ 20) (ho : o.size ≤ 20) : Calls Try.prog 32 #[v, .agg #[.string s, .string p, .string o]] w (GotRes (withoutT ts (s, p, o)) w) := by
  obtain ⟨x, c, rfl, hi, hp', hsm⟩ := h
  exact (specWithout x _ c ts s p o w hi hp' hsm.sm (by omega) (by omega) (by omega)).mono fun e w' g => gotRes hsm.less g
theorem GotG.shape {w : World} {v : Value} {ts : List Tri3} (h : GotG w v ts) : ∃ x c, v = .slice x ts.length c := by
  obtain ⟨x, c, hv, _⟩ := h
  exact ⟨x, c, hv⟩
theorem with_twice {ts n : List Tri3} {t : Tri3} (h : withT ts t = some n) : withT n t = some n := by
  obtain ⟨h1, h2, rfl, h4⟩ := withT_some h
  have e : putT (putT ts t) t = putT ts t := eq_of_rising (putT_rising (graphOk_rising h4)) (graphOk_rising h4) (fun u => by rw [putT_mem, putT_mem]; exact ⟨fun c => c.elim .inl id, .inr⟩)
  unfold withT
  rw [e, if_pos ⟨h4, h2, graphOk_len h4⟩]
theorem with_swap {ts n x m : List Tri3} {t u : Tri3} (h : withT ts t = some n) (hx : withT n u = some x) (hm : withT ts u = some m) : withT m t = some x := by
  obtain ⟨h1, h2, rfl, h4⟩ := withT_some h
  obtain ⟨x1, x2, rfl, x4⟩ := withT_some hx
  obtain ⟨m1, m2, rfl, m4⟩ := withT_some hm
  have e : putT (putT ts u) t = putT (putT ts t) u := eq_of_rising (putT_rising (graphOk_rising m4)) (graphOk_rising x4) (fun v => by
    simp only [putT_mem]
    exact ⟨fun c => by rcases c with c | c | c <;> simp [c], fun c => by rcases c with c | c | c <;> simp [c]⟩)
  unfold withT
  rw [e, if_pos ⟨m4, h2, graphOk_len x4⟩]
theorem with_less {ts h : List Tri3} {t : Tri3} (e : withT ts t = some h) : withoutT h t = some (lessT h t) ∧ t ∈ h ∧ h.length ≤ ts.length + 1 ∧ (lessT h t).length + 1 = h.length ∧ (∀ u ∈ ts, u ∈ h) ∧ (∀ u ∈ lessT h t, u ∈ ts) ∧ t ∉ lessT h t ∧ graphOk h = true := by
  obtain ⟨h1, h2, rfl, h4⟩ := withT_some e
  have hm : t ∈ putT ts t := putT_mem.2 (.inl rfl)
  refine ⟨by unfold withoutT; rw [if_pos ⟨h4, hm⟩], hm, putT_len ts t, lessT_len_mem (graphOk_rising h4).nodup hm, fun u hu => putT_mem.2 (.inr hu), fun u hu => ?_, fun c => (lessT_mem.1 c).1 rfl, h4⟩
  obtain ⟨a, b⟩ := lessT_mem.1 hu
  exact (putT_mem.1 b).resolve_left a
theorem without_back {ts h : List Tri3} {t : Tri3} (e : withoutT ts t = some h) : withT h t = some ts ∧ t ∉ h ∧ (∀ u ∈ h, u ∈ ts) ∧ graphOk h = true := by
  obtain ⟨h1, h2, rfl, h4⟩ := withoutT_some e
  have e2 : putT (lessT ts t) t = ts := eq_of_rising (putT_rising (graphOk_rising h4)) (graphOk_rising h1) (fun u => by
    rw [putT_mem, lessT_mem]
    constructor
    · rintro (rfl | ⟨_, c⟩)
      · exact h2
      · exact c
    · intro c
      by_cases g : u = t
      · exact .inl g
      · exact .inr ⟨g, c⟩)
  refine ⟨?_, fun c => (lessT_mem.1 c).1 rfl, fun u hu => (lessT_mem.1 hu).2, h4⟩
  unfold withT
  rw [e2, if_pos ⟨h4, graphOk_okT h1 t h2, graphOk_len h1⟩]
end Go.Proofs.Ytinmjbgljgljkaa
