/- Stores of drawn graphs: the contracts of both sides, and the laws' comparison. -/
import Derived.Test.YteejpceliodcfaaRdG
import Derived.Test.YteejpceliodcfaaStoF
namespace Go.Proofs.Yteejpceliodcfaa
open Go.RowKit Go.WideShapes
theorem SmG.of_sub {ts us : List Tri3} (h : SmG ts) (hl : us.length ≤ ts.length) (hm : ∀ u ∈ us, u ∈ ts) : SmG us := ⟨by have := h.1; omega, fun u hu => h.2 u (hm u hu)⟩
theorem SmG.nil : SmG [] := ⟨by simp, by simp⟩
theorem SmG.st0 {ts : List Tri3} (h : SmG ts) : SmG (st0 ts) := by
  unfold Go.Proofs.Yteejpceliodcfaa.st0; split
  · exact h
  · exact SmG.nil
theorem SmG.st1 {ts : List Tri3} (h : SmG ts) : SmG (st1 ts) := by
  unfold Go.Proofs.Yteejpceliodcfaa.st1; split
  · exact h.of_sub (by rw [sortH_len]; exact Nat.le_refl _) (fun u hu => sortH_mem.1 hu)
  · exact SmG.nil
theorem SmG.st2 {ts : List Tri3} (h : SmG ts) : SmG (st2 ts) := by
  unfold Go.Proofs.Yteejpceliodcfaa.st2; split
  · exact h.of_sub (by rw [sortH_len]; exact Nat.le_refl _) (fun u hu => sortH_mem.1 hu)
  · exact SmG.nil
def Got3 (w : World) (v1 v2 v3 : Value) (t1 t2 t3 : List Tri3) : Prop := GotG w v1 t1 ∧ GotG w v2 t2 ∧ GotG w v3 t3
theorem Got3.next {w w' : World} {v1 v2 v3 : Value} {t1 t2 t3 : List Tri3} (h : Got3 w v1 v2 v3 t1 t2 t3) (hb : Below w.heap.size w w') : Got3 w' v1 v2 v3 t1 t2 t3 := ⟨h.1.next hb, h.2.1.next hb, h.2.2.next hb⟩
theorem got3_of {B : Nat} {w : World} {v1 v2 v3 : Value} {t1 t2 t3 : List Tri3} (h : Own3 B w v1 v2 v3 t1 t2 t3) (s1 : SmG t1) (s2 : SmG t2) (s3 : SmG t3) : Got3 w v1 v2 v3 t1 t2 t3 := by
  obtain ⟨B1, B2, h1, h2, o1, o2, o3, _⟩ := h
  exact ⟨got_of o1 s1, got_of o2 s2, got_of o3 s3⟩
def Got3Res (ts : List Tri3) (w : World) (e : Ending) (w' : World) : Prop := ∃ v1 v2 v3, e = .returned (.tuple #[.agg #[v1, v2, v3], .bool (graphOk ts)]) ∧ Got3 w' v1 v2 v3 (st0 ts) (st1 ts) (st2 ts) ∧ Below w.heap.size w w'
theorem implStoreOfG {v : Value} {ts : List Tri3} {w : World} (h : GotG w v ts) : Calls Try.prog 22 #[v] w (Got3Res ts w) := by
  obtain ⟨x, c, rfl, hi, hp, hs⟩ := h
  have := hs.1
  exact (implStoreOf x _ c ts w hi hs.sm (by omega)).mono fun e w' ⟨v1, v2, v3, he, ho, hb⟩ => ⟨v1, v2, v3, he, got3_of ho hs.st0 hs.st1 hs.st2, hb⟩
theorem specStoreOfG {v : Value} {ts : List Tri3} {w : World} (h : GotG w v ts) : Calls Try.prog 23 #[v] w (Got3Res ts w) := by
  obtain ⟨x, c, rfl, hi, hp, hs⟩ := h
  have := hs.1
  exact (specStoreOf x _ c ts w hi hs.sm (by omega)).mono fun e w' ⟨v1, v2, v3, he, ho, hb⟩ => ⟨v1, v2, v3, he, got3_of ho hs.st0 hs.st1 hs.st2, hb⟩
theorem implStoreOkG {v1 v2 v3 : Value} {t1 t2 t3 : List Tri3} {w : World} (h : Got3 w v1 v2 v3 t1 t2 t3) : Calls Try.prog 26 #[.agg #[v1, v2, v3]] w fun e w' => e = .returned (.bool (storeOk t1 t2 t3)) ∧ Below w.heap.size w w' := by
  obtain ⟨⟨x1, c1, rfl, i1, p1, s1⟩, ⟨x2, c2, rfl, i2, p2, s2⟩, ⟨x3, c3, rfl, i3, p3, s3⟩⟩ := h
  have := s1.1; have := s2.1; have := s3.1
  exact implStoreOk x1 x2 x3 _ _ _ c1 c2 c3 t1 t2 t3 w ⟨i1, i2, i3⟩ s1.sm (by omega) (by omega) (by omega)
theorem specStoreOkG {v1 v2 v3 : Value} {t1 t2 t3 : List Tri3} {w : World} (h : Got3 w v1 v2 v3 t1 t2 t3) : Calls Try.prog 27 #[.agg #[v1, v2, v3]] w fun e w' => e = .returned (.bool (storeOk t1 t2 t3)) ∧ Below w.heap.size w w' := by
  obtain ⟨⟨x1, c1, rfl, i1, p1, s1⟩, ⟨x2, c2, rfl, i2, p2, s2⟩, ⟨x3, c3, rfl, i3, p3, s3⟩⟩ := h
  have := s1.1; have := s2.1; have := s3.1
  exact specStoreOk x1 x2 x3 _ _ _ c1 c2 c3 t1 t2 t3 w ⟨i1, i2, i3⟩ s1.sm (by omega) (by omega) (by omega)
theorem SmG.found {t1 t2 t3 : List Tri3} (h : SmG t1) (p : Tri3) : SmG (foundT t1 t2 t3 p) := by
  unfold foundT; split
  · exact h.of_sub (List.length_filter_le _ _) (fun u hu => (List.mem_filter.1 hu).1)
  · exact SmG.nil
theorem implFoundG {v1 v2 v3 : Value} {t1 t2 t3 : List Tri3} {w : World} (h : Got3 w v1 v2 v3 t1 t2 t3) (s p o : ByteArray) : Calls Try.prog 31 #[.agg #[v1, v2, v3], .agg #[.string s, .string p, .string o]] w fun e w' => ∃ v, e = .returned v ∧ GotG w' v (foundT t1 t2 t3 (s, p, o)) ∧ Below w.heap.size w w' := by
  obtain ⟨⟨x1, c1, rfl, i1, p1, s1⟩, ⟨x2, c2, rfl, i2, p2, s2⟩, ⟨x3, c3, rfl, i3, p3, s3⟩⟩ := h
  have := s1.1; have := s2.1; have := s3.1
  exact (implFound x1 x2 x3 _ _ _ c1 c2 c3 t1 t2 t3 s p o w ⟨i1, i2, i3⟩ s1.sm (by omega) (by omega) (by omega)).mono fun e w' ⟨v, he, ho, hb⟩ => ⟨v, he, got_of ho (s1.found _), hb⟩
theorem specFoundG {v1 v2 v3 : Value} {t1 t2 t3 : List Tri3} {w : World} (h : Got3 w v1 v2 v3 t1 t2 t3) (s p o : ByteArray) : Calls Try.prog 32 #[.agg #[v1, v2, v3], .agg #[.string s, .string p, .string o]] w fun e w' => ∃ v, e = .returned v ∧ GotG w' v (foundT t1 t2 t3 (s, p, o)) ∧ Below w.heap.size w w' := by
  obtain ⟨⟨x1, c1, rfl, i1, p1, s1⟩, ⟨x2, c2, rfl, i2, p2, s2⟩, ⟨x3, c3, rfl, i3, p3, s3⟩⟩ := h
  have := s1.1; have := s2.1; have := s3.1
  exact (specFound x1 x2 x3 _ _ _ c1 c2 c3 t1 t2 t3 s p o w ⟨i1, i2, i3⟩ s1.sm (by omega) (by omega) (by omega)).mono fun e w' ⟨v, he, ho, hb⟩ => ⟨v, he, got_of ho (s1.found _), hb⟩
end Go.Proofs.Yteejpceliodcfaa
