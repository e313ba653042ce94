/-
  A list of runes that came in, opened for a walk: where it lies, its numbers' kind.
-/
import Derived.Test.YthdodmbopchfdaaRows
import Derived.Test.YthdodmbopchfdaaPB
import Derived.WalkKit
import Derived.ProofKit
import Derived.OpenShut
import Derived.ShutString
import Derived.SizedLaws
import Derived.ChangeOld
import Derived.Below
import Derived.RangeFuncOwn
namespace Go.Proofs.Ythdodmbopchfdaa
open Go.ChangeShapes Go.WideShapes Go.ChangeAt Go.RowKit
theorem runes_of_row {W : World} {x : Addr} {len cap : Nat} {zs : List Int} (hl : len ≤ cap) (hz : zs.length = cap) (hcell : ∀ i, i < zs.length → W.cell? (x.add i) = some (.int .i32 (zs.getD i 0))) : RunesAt W (.slice (some x) len cap) (zs.take len) := by
  have hlen : (zs.take len).length = len := List.length_take_of_le (by omega)
  refine ⟨some x, cap, by rw [hlen], fun k y hk => ?_⟩
  have hkl : k < (zs.take len).length := (List.getElem?_eq_some_iff.1 hk).1
  have hc := hcell k (by omega)
  obtain ⟨b, off, spot⟩ := x
  have hspot : spot = none := by simpa [Addr.add] using World.cell?_spot (hcell 0 (by omega))
  subst hspot
  rw [Addr.add_lit] at hc
  obtain ⟨o, ho, _⟩ := cells_of_cell hc
  refine ⟨b, off, rfl, (Array.getElem?_eq_some_iff.1 ho).1, ?_⟩
  have hy : zs.getD k 0 = y := by
    rw [List.getElem?_take_of_lt (by omega)] at hk
    rw [List.getD_eq_getElem?_getD, hk]; rfl
  rw [← hy]
  exact hc
theorem i32_bd {z : Int} (h : (Lit.int .i32 z).wf = true) : -2147483648 ≤ z ∧ z ≤ 2147483647 := by simpa [Lit.wf, IntKind.min, IntKind.max, IntKind.signed, IntKind.bits] using h
end Go.Proofs.Ythdodmbopchfdaa
