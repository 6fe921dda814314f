/- What the rows that list the table of sixteen need: where it lies, that it reads so, and the heap of the door's own run. -/
import Derived.Test.YtilgmjdpoaimiaaDoorFrmI
import Derived.LaidMore
import Derived.OpenVars
import Derived.Stop.Joined
namespace Go.Proofs.YtilgmjdpoaimiaaDoor
open Go.ChangeShapes Go.WideShapes Go.ChangeAt Go.WideMaps Go.WideElems Go.RowKit
namespace Door
theorem gTab : Tryd.prog.globalNamed "loop.example/g00420/impl.crcOfBits" = some 0 := by kernel_rfl
theorem tTab : (Tryd.prog.globals[0]?).map (·.type) = some 47 := by kernel_rfl
theorem cells1 : Tryd.prog.cellsOf 38 = 1 := by kernel_rfl
def laidTab : List (String × DataW Unit) := [("loop.example/g00420/impl.crcOfBits", Rows.laid_loop_example_g00420_impl_crcOfBits)]
theorem tab_at (i : Nat) (hi : i < 16) : ([.lit (.int .u32 0), .lit (.int .u32 498536548), .lit (.int .u32 997073096), .lit (.int .u32 651767980), .lit (.int .u32 1994146192), .lit (.int .u32 1802195444), .lit (.int .u32 1303535960), .lit (.int .u32 1342533948), .lit (.int .u32 3988292384), .lit (.int .u32 4027552580), .lit (.int .u32 3604390888), .lit (.int .u32 3412177804), .lit (.int .u32 2607071920), .lit (.int .u32 2262029012), .lit (.int .u32 2685067896), .lit (.int .u32 3183342108)] : List (DataW Unit))[i]? = some (.lit (.int .u32 (crcTab i))) := by
  have : i = 0 ∨ i = 1 ∨ i = 2 ∨ i = 3 ∨ i = 4 ∨ i = 5 ∨ i = 6 ∨ i = 7 ∨ i = 8 ∨ i = 9 ∨ i = 10 ∨ i = 11 ∨ i = 12 ∨ i = 13 ∨ i = 14 ∨ i = 15 := by omega
  rcases this with rfl | rfl | rfl | rfl | rfl | rfl | rfl | rfl | rfl | rfl | rfl | rfl | rfl | rfl | rfl | rfl <;> rfl
theorem crcT_of_laid {W : World} (h : laidMetH Tryd.prog laidTab W) : CrcT W := by
  rw [MakeChecks.laidMetH_plain _ _ _ (by kernel_rfl)] at h
  obtain ⟨ps, ⟨g0, t0, cs0, f0, p0, q0, hg0, ht0, hv0, hd0, _, _⟩, _⟩ := h
  obtain rfl := Option.some.inj (gTab.symm.trans hg0)
  obtain rfl := Option.some.inj (tTab.symm.trans ht0)
  obtain ⟨xs, m1, rfl, hx1, hlen, hn, hel⟩ := DataW.trod_array Tryd.underlying47 hd0
  simp only [Rows.laid_loop_example_g00420_impl_crcOfBits, Prod.mk.injEq, DataW.agg.injEq] at hx1
  have hc : ∀ i : Nat, i < 16 → W.cell? ⟨0, i, none⟩ = some (.int .u32 (crcTab i)) := by
    intro i hi
    have hcell := World.var?_cell hg0 hv0 i
    have hx : i < xs.length := by omega
    have h1 := hel i hi
    rw [cells1, Nat.mul_one, List.getElem?_eq_getElem hx] at h1
    obtain ⟨n, e1, e2, _⟩ := DataW.trod_int Tryd.underlying38 h1
    have e3 : (xs.map (·.1))[i]? = some (.lit (.int .u32 n)) := by
      rw [List.getElem?_map, List.getElem?_eq_getElem hx, Option.map_some, e2]
    rw [← hx1.1, tab_at i hi] at e3
    simp only [Option.some.injEq, DataW.lit.injEq, Lit.int.injEq, true_and] at e3
    subst e3
    have e4 : cs0.toList[i]? = some (.int .u32 (crcTab i)) := by
      have := congrArg (fun l => l[0]?) e1
      simpa using this
    rw [hcell, ← Array.getElem?_toList]
    exact e4
  refine ⟨?_, hc⟩
  have := World.block_lt_of_cell? _ _ (hc 0 (by omega))
  exact Nat.lt_of_le_of_lt (Nat.zero_le _) this
theorem met (os : Os) (args : Array Value) : laidMetH Tryd.prog laidTab ((World.doorLaid Tryd.prog 400 os).forCall (fun _ _ => 0) ⟨#[], args, []⟩).memory :=
  laidMetH_of_parts3 (fuel := 8) (laidMet_of_run' 8 (by kernel_rfl) (by kernel_rfl)) (by kernel_rfl) (by kernel_rfl)
theorem rowed : varsRowed Tryd.prog ["loop.example/g00420/impl.crcOfBits"] = true := by kernel_rfl
end Door
end Go.Proofs.YtilgmjdpoaimiaaDoor
