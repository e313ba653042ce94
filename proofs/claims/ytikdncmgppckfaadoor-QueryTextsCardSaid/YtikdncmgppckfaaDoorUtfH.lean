import Derived.Test.YtikdncmgppckfaaDoorGU
import Derived.Test.YtikdncmgppckfaaDoorPctD
import Derived.Test.YtikdncmgppckfaaDoorPB
namespace Go.Proofs.YtikdncmgppckfaaDoor
open Go.RowKit
theorem enc_take (l : List Int) (k : Nat) (h : k < l.length) : U.enc (l.take (k + 1)) = U.enc (l.take k) ++ U.encR l[k] := by
  rw [take_snoc l k h, U.enc_app, U.enc_cons, U.enc_nil, List.append_nil]
theorem enc_take_len (l : List Int) (k : Nat) (h : k ≤ l.length) : (U.enc (l.take k)).length ≤ 4 * k := by
  have := U.enc_len (l.take k)
  rw [List.length_take_of_le h] at this
  exact this
end Go.Proofs.YtikdncmgppckfaaDoor
