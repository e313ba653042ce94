import Derived.Test.YtamhmpgaapgmbaaDoorA7
namespace Go.Proofs.YtamhmpgaapgmbaaDoor
open Go.RowKit
theorem ans_no {o : Option Nat} (h : o = none) : Ending.returned (.tuple #[.int .u32 0, .int .i64 17]) = ansE o := by rw [h]; rfl
theorem ans_yes {o : Option Nat} {n : Nat} {a : Int} (h : o = some n) (ha : a = (n : Int)) : Ending.returned (.tuple #[.int .u32 a, .int .i64 0]) = ansE o := by rw [h, ha]; rfl
set_option maxHeartbeats 8000000 in
set_option maxRecDepth 100000 in
theorem v4_many (s : ByteArray) (hs : s.size ≤ 140737488355328) (w : World) (hG : Glob w) (h5 : ¬ (partsAt 46 (noDot s.data.toList)).length ≤ 4) :
    Calls Tryd.prog 10 #[.string s] w fun e w' => e = ansE (v4O s.data.toList) ∧ Below w.heap.size w w' := by
  have HA := Lib.hid (show v4O s.data.toList = none from if_neg h5)
  have H5 := Lib.hid h5
  clear hG h5
  have HT := Lib.hid (trim_dot s.data.toList)
  have HZ := Lib.hid (nd_size s hs)
  go_enter Tryd.func10, Tryd.ntmps10
  go_wp2_with (go_at_call 24; refine (Tryd.strings_TrimSuffix s ⟨#[46]⟩ _ (by omega)).mono ?_; rintro e w' ⟨rfl, hw⟩; rw [hw, HT.out])
  refine (split5 _ HZ.out _).mono ?_
  rintro e w1 ⟨l, N, rfl, h1, h2, h3, h4, h6, h7⟩
  have HL := Lib.hid (show l.length = 5 from Decidable.byContradiction fun h => by
    have := h7 (by omega)
    have e := congrArg List.length this
    simp at e
    exact H5.out (by rw [← e]; omega))
  have HB := Lib.hid (show Below w.heap.size w w1 by rw [h1]; exact bnew _ _)
  clear h1 h2 h3 h4 h6 h7
  rw [HL.out]
  go_wp2_with fail
  go_ret2
  exact ⟨ans_no HA.out, HB.out⟩
end Go.Proofs.YtamhmpgaapgmbaaDoor
