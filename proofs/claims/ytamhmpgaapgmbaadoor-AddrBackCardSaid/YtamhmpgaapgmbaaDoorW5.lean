import Derived.Test.YtamhmpgaapgmbaaDoorA24
import Derived.Test.YtamhmpgaapgmbaaDoorM3
namespace Go.Proofs.YtamhmpgaapgmbaaDoor
open Go.RowKit
set_option maxHeartbeats 16000000 in
set_option maxRecDepth 100000 in
theorem AddrBack_walk (n : Nat) (hn : n < 4294967296) (l : List Nat) (hl : l.length = 8) (bl : ∀ x ∈ l, x < 65536) (w : World) (hG : Glob w) :
    Calls Tryd.prog 5 #[.int .u32 n, .agg (A8 l)] w fun e w' => e = .returned (.bool true) ∧ Below w.heap.size w w' := by
  have HG := Lib.hid hG
  have HL := Lib.hid hl
  have HBL := Lib.hid bl
  have hm0 : Tryd.prog.follows .mixedOrders = true := by kernel_rfl
  have hle : (Tryd.prog.info? 27).map (·.size) = some (A8 l).size := by rw [A8_size, hl]; exact info27
  have HLE := Lib.hid hle
  have HS8 := Lib.hid (show (A8 l).size = 8 by rw [A8_size, hl])
  have keq : ∀ W, (binOp .eql 27 (.agg (A8 l)) (.agg (A8 l))).run Tryd.prog W = .ok (.bool true) W := fun W => by rw [eq8 l l hl hl bl bl]; simp
  have H0 := Lib.hid (Has.new w (.cells (A8 l) 27))
  clear hG hl bl hle
  go_enter Tryd.func5, Tryd.ntmps5
  go_wp2_with fail
  refine (lives_is _ (HG.out.to (bnew _ _))).mono ?_
  rintro e w1 ⟨rfl, hb⟩
  have HB1 := Lib.hid (bel2 (bnew w (.cells (A8 l) 27)) hb)
  have HH1 := Lib.hid (H0.out.to hb)
  clear hb
  go_wp2_with fail
  have HP := Lib.hid (show ∀ p : Later w1, Has p.v w.heap.size (.cells (A8 l) 27) ∧ Glob p.v from fun p => ⟨HH1.out.to p.h, (HG.out.to HB1.out).to p.h⟩)
  have HT4 := Lib.hid (show ∀ p : Later w1, Calls Tryd.prog 17 #[.int .u32 n] p.v fun e w' => e = .returned (.string ⟨(tv4 n).toArray⟩) ∧ Below p.v.heap.size p.v w' from fun p => textV4_is n hn _ (HP.out p).2)
  have HT6 := Lib.hid (show ∀ p : Later w1, Calls Tryd.prog 19 #[.agg (A8 l)] p.v fun e w' => e = .returned (.string ⟨(tv6 l).toArray⟩) ∧ Below p.v.heap.size p.v w' from fun p => textV6_is l HL.out HBL.out _ (HP.out p).2)
  refine wp_region_quiet_later hm0 (by kernel_rfl) ?_
  quiet_step (fail)
  quiet_step ((go_at_call 17; exact Calls.later_of (HT4.out _)))
  refine qload (by rfl) 27 (.tmp 3) rfl w.heap.size rfl 27 (A8 l) _ (fun w' ⟨p, e⟩ => e ▸ (HP.out p).1) Tryd.underlying27 rfl HLE.out ?_
  quiet_step ((go_at_call 19; exact Calls.later_of (HT6.out _)))
  quiet_step (fail)
  quiet_step (fail)
  refine wpQuiet_nil ?_
  rintro _ ⟨p, rfl⟩
  have HB2 := Lib.hid (bel2 HB1.out p.h)
  have HH2 := Lib.hid (HP.out p).1
  have HG2 := Lib.hid (HP.out p).2
  go_wp2_with fail
  refine (v4_is ⟨(tv4 n).toArray⟩ (by rw [ba_size]; have := tv4_len hn; omega) _ HG2.out).mono ?_
  rintro e w3 ⟨rfl, hb⟩
  have HB3 := Lib.hid (bel2 HB2.out hb)
  have HH3 := Lib.hid (HH2.out.to hb)
  have HG3 := Lib.hid (HG2.out.to hb)
  clear hb
  rw [show v4O (⟨(tv4 n).toArray⟩ : ByteArray).data.toList = some n from v4_back hn]
  simp only [ansE]
  go_wp2_with fail
  refine (v6_is ⟨(tv6 l).toArray⟩ (by rw [ba_size]; have := tv6_len HL.out HBL.out; omega) _ HG3.out).mono ?_
  rintro e w4 ⟨rfl, hb⟩
  have HB4 := Lib.hid (bel2 HB3.out hb)
  have HH4 := Lib.hid (HH3.out.to hb)
  have HG4 := Lib.hid (HG3.out.to hb)
  clear hb
  rw [show v6P (⟨(tv6 l).toArray⟩ : ByteArray).data.toList = some l from v6_back HL.out HBL.out]
  simp only [v6E]
  have HN5 := Lib.hid (Has.new w4 (.cells Z8 27))
  have hne : w.heap.size ≠ w4.heap.size := by have := HH4.out.lt; omega
  have HR5 := Lib.hid (show Has ((w4.alloc (.cells Z8 27)).setRow w4.heap.size (A8 l)) w4.heap.size (.cells (A8 l) 27) from setRow_heap _ _ _ _ 27 (0, 0) HN5.out)
  have HH5 := Lib.hid (show Has ((w4.alloc (.cells Z8 27)).setRow w4.heap.size (A8 l)) w.heap.size (.cells (A8 l) 27) from (setRow_other _ _ _ _ hne).trans (HH4.out.alloc _))
  have HB5 := Lib.hid (below_setRow (HB4.out.alloc HB4.out.size (.cells Z8 27)) HB4.out.size (A8 l))
  have HG5 := Lib.hid (HG.out.to HB5.out)
  have hl6 : ((tv6 l).length : Int) ≤ 39 := by have := tv6_len HL.out HBL.out; omega
  have hl4 : ((tv4 n).length : Int) ≤ 15 := by have := tv4_len hn; omega
  clear hne
  go_wp2_with (first
    | (refine wpList_store_row rfl 27 (.tmp 9) (.tmp 25) rfl w4.heap.size (A8 l) rfl rfl 27 Z8 HN5.out (by rw [HS8.out]; exact info27) (by rw [HS8.out]; rfl) (A8_one l) ?_)
    | (refine gload rfl 27 (.tmp 9) rfl w4.heap.size rfl 27 (A8 l) _ HR5.out Tryd.underlying27 rfl HLE.out ?_)
    | (refine gload rfl 27 (.tmp 3) rfl w.heap.size rfl 27 (A8 l) _ HH5.out Tryd.underlying27 rfl HLE.out ?_))
  refine (ends_is ⟨(tv4 n).toArray⟩ (by rw [ba_size]; have := tv4_len hn; omega) _ HG5.out).mono ?_
  rintro e w6 ⟨rfl, hb⟩
  have HB6 := Lib.hid (bel2 HB5.out hb)
  clear hb
  rw [show endsB (⟨(tv4 n).toArray⟩ : ByteArray).data.toList = true from ends_of_v4 (v4_back hn)]
  go_wp2_with fail
  go_ret
  exact ⟨rfl, HB6.out⟩
end Go.Proofs.YtamhmpgaapgmbaaDoor
