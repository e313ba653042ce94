import Derived.Test.YtikdncmgppckfaaDoorUtfQ
/-
  The walk of bastionlaw02.UtfReads: it answers true for every text of at most 1048576 bytes, and changes nothing that was there.
-/
namespace Go.Proofs.YtikdncmgppckfaaDoor
open Go.RowKit
set_option maxHeartbeats 1000000 in
theorem rscalar_is (u : ByteArray) (T : List UInt8) (hT : U.scal u.data.toList = T) (hu : u.size * 4 ≤ 140737488355328) (w : World) :
    Calls Tryd.prog 47 #[.string u] w fun e w' => e = .returned (.string ⟨T.toArray⟩) ∧ Below w.heap.size w w' := by
  have hc := (U.runes_count u.data.toList).1
  rw [len_list] at hc
  go_enter Tryd.func47, Tryd.ntmps47
  go_wp2_with fail
  refine (rdecode_runes u _ rfl hu _).mono ?_
  rintro e w1 ⟨v, rfl, hA, hb1⟩
  go_wp2_with fail
  refine (rencode_runes v _ T hT (by omega) _ hA).mono ?_
  rintro e w2 ⟨rfl, hb2⟩
  go_wp2
  go_ret
  exact ⟨rfl, bel2 hb1 hb2⟩
end Go.Proofs.YtikdncmgppckfaaDoor
