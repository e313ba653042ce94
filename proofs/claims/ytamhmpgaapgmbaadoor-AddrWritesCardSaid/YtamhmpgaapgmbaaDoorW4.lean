import Derived.Test.YtamhmpgaapgmbaaDoorX4
namespace Go.Proofs.YtamhmpgaapgmbaaDoor
open Go.RowKit
set_option maxHeartbeats 1000000 in
set_option maxRecDepth 100000 in
theorem AddrWrites_walk (n : Nat) (hn : n < 4294967296) (l : List Nat) (hl : l.length = 8) (bl : ∀ x ∈ l, x < 65536) (w : World) (hG : Glob w) :
    Calls Tryd.prog 4 #[.int .u32 n, .agg (A8 l)] w fun e w' => e = .returned (.bool true) ∧ Below w.heap.size w w' := by
  have HG := Lib.hid hG
  have HL := Lib.hid hl
  have HBL := Lib.hid bl
  have hm0 : Tryd.prog.follows .mixedOrders = true := by kernel_rfl
  have HLE := Lib.hid (show (Tryd.prog.info? 27).map (·.size) = some (A8 l).size by rw [A8_size, hl]; exact info27)
  obtain ⟨s, hs⟩ : ∃ t : ByteArray, (⟨(tv4 n).toArray⟩ : ByteArray) = t := ⟨_, rfl⟩
  obtain ⟨t, ht⟩ : ∃ t : ByteArray, (⟨(tv6 l).toArray⟩ : ByteArray) = t := ⟨_, rfl⟩
  have HP := Lib.hid (show ∀ p : Later (w.alloc (.cells (A8 l) 27)), Has p.v w.heap.size (.cells (A8 l) 27) ∧ Glob p.v from fun p => ⟨(Has.new w (.cells (A8 l) 27)).to p.h, (hG.to (bnew w (.cells (A8 l) 27))).to p.h⟩)
  have C14 := Lib.hid (show ∀ p : Later (w.alloc (.cells (A8 l) 27)), Calls Tryd.prog 14 #[] p.v fun e w' => e = .returned (.bool true) ∧ Below p.v.heap.size p.v w' from fun p => lives_is _ (HP.out p).2)
  have C17 := Lib.hid (show ∀ p : Later (w.alloc (.cells (A8 l) 27)), Calls Tryd.prog 17 #[.int .u32 n] p.v fun e w' => e = .returned (.string s) ∧ Below p.v.heap.size p.v w' from fun p => by rw [← hs]; exact textV4_is n hn _ (HP.out p).2)
  have C18 := Lib.hid (show ∀ p : Later (w.alloc (.cells (A8 l) 27)), Calls Tryd.prog 18 #[.int .u32 n] p.v fun e w' => e = .returned (.string s) ∧ Below p.v.heap.size p.v w' from fun p => by rw [← hs]; exact refV4_is n hn _)
  have C19 := Lib.hid (show ∀ p : Later (w.alloc (.cells (A8 l) 27)), Calls Tryd.prog 19 #[.agg (A8 l)] p.v fun e w' => e = .returned (.string t) ∧ Below p.v.heap.size p.v w' from fun p => by rw [← ht]; exact textV6_is l hl bl _ (HP.out p).2)
  have C20 := Lib.hid (show ∀ p : Later (w.alloc (.cells (A8 l) 27)), Calls Tryd.prog 20 #[.agg (A8 l)] p.v fun e w' => e = .returned (.string t) ∧ Below p.v.heap.size p.v w' from fun p => by rw [← ht]; exact refV6_is l hl bl _)
  have e1 : (s.toList == s.toList) = true := by simp
  have e2 : (t.toList == t.toList) = true := by simp
  clear hG hl bl hn hs ht
  go_enter Tryd.func4, Tryd.ntmps4
  go_wp2_with fail
  refine wp_region_quiet_later hm0 (by kernel_rfl) ?_
  quiet_step ((go_at_call 14; exact Calls.later_of (C14.out _)))
  quiet_step (fail)
  quiet_step (fail)
  quiet_step ((go_at_call 17; exact Calls.later_of (C17.out _)))
  quiet_step (fail)
  quiet_step ((go_at_call 18; exact Calls.later_of (C18.out _)))
  quiet_step (fail)
  quiet_step (fail)
  quiet_step (fail)
  refine qload (by rfl) 27 (.tmp 3) rfl w.heap.size rfl 27 (A8 l) _ (fun w' ⟨p, e⟩ => e ▸ (HP.out p).1) Tryd.underlying27 rfl HLE.out ?_
  quiet_step ((go_at_call 19; exact Calls.later_of (C19.out _)))
  refine qload (by rfl) 27 (.tmp 3) rfl w.heap.size rfl 27 (A8 l) _ (fun w' ⟨p, e⟩ => e ▸ (HP.out p).1) Tryd.underlying27 rfl HLE.out ?_
  quiet_step ((go_at_call 20; exact Calls.later_of (C20.out _)))
  quiet_step (fail)
  quiet_step (fail)
  quiet_step (fail)
  refine wpQuiet_nil ?_
  rintro _ ⟨p, rfl⟩
  have HB := Lib.hid (bel2 (bnew w (.cells (A8 l) 27)) p.h)
  go_wp2_with fail
  go_ret
  exact ⟨rfl, HB.out⟩
end Go.Proofs.YtamhmpgaapgmbaaDoor
