import Derived.Test.YtamhmpgaapgmbaaDoorA16
import Derived.Test.YtamhmpgaapgmbaaDoorA9
import Derived.StillTailTactics
namespace Go.Proofs.YtamhmpgaapgmbaaDoor
open Go.RowKit
/-- four decimal numbers at the end as two pieces -/
def mixL (l : List UInt8) : List UInt8 := match v4O (lastP 58 l) with
  | some n => if tv4 n = lastP 58 l then l.take (l.length - (lastP 58 l).length) ++ txtP [n / 65536, n % 65536] else l
  | none => l
theorem v4O_lt {l : List UInt8} {n : Nat} (h : v4O l = some n) : n < 4294967296 := by
  have key : ∀ (ps : List (List UInt8)) (k acc : Nat), k + ps.length ≤ 4 → acc + pw k ≤ 4294967296 → ∀ n, sum4 k ps = some n → acc + n < 4294967296 := by
    intro ps
    induction ps with
    | nil => intro k acc _ _ n h; simp [sum4] at h
    | cons p r ih =>
      intro k acc hk ha n h
      cases r with
      | nil =>
        rw [sum4] at h
        rcases hn : numO p with _ | m
        · rw [hn] at h; cases h
        · rw [hn] at h
          simp only [Option.bind_some] at h
          split at h
          · cases h; omega
          · cases h
      | cons q r' =>
        rw [sum4] at h
        rcases hn : numO p with _ | m
        · rw [hn] at h; cases h
        · rw [hn] at h
          simp only [Option.bind_some] at h
          split at h
          · rename_i hm
            simp only [Option.map_eq_some_iff] at h
            obtain ⟨x, hx, rfl⟩ := h
            have hk3 : k = 0 ∨ k = 1 ∨ k = 2 := by simp at hk; omega
            have := ih (k + 1) (acc + m * pw (k + 1)) (by simp at hk ⊢; omega) (by rcases hk3 with rfl | rfl | rfl <;> simp only [pw] at ha ⊢ <;> omega) x hx
            omega
          · cases h
  unfold v4O v4P at h
  split at h
  · have := key _ 0 0 (by omega) (by decide) n h
    omega
  · cases h
set_option maxHeartbeats 8000000 in
set_option maxRecDepth 100000 in
theorem mixed_none (s : ByteArray) (hs : s.size ≤ 1000) (w : World) (hG : Glob w) (j : Nat) (hj : Lib.lastIndexByte s 58 = (j : Int) - 1) (hjs : j ≤ s.size) (hv : v4O (s.extract j s.size).data.toList = none) :
    Calls Tryd.prog 44 #[.string s] w fun e w' => e = .returned (.string s) ∧ Below w.heap.size w w' := by
  have HJ := Lib.hid hj
  have HC := Lib.hid (v4_is (s.extract j s.size) (by rw [ByteArray.size_extract]; omega) w hG)
  have HV := Lib.hid hv
  have hj2 : (j : Int) ≤ (s.size : Int) := by omega
  have hm0 : Tryd.prog.follows .mixedOrders = true := by kernel_rfl
  clear hj hv hG
  go_enter Tryd.func44, Tryd.ntmps44
  go_wp2_with (go_at_call 30; refine (Tryd.strings_LastIndexByte s 58 (by omega) _).mono ?_; rintro e w' ⟨rfl, hw⟩; rw [hw, show Lib.lastIndexByte s 58 = (j : Int) - 1 from HJ.out])
  refine HC.out.mono ?_
  rintro e w1 ⟨rfl, hb⟩
  have HB := Lib.hid hb
  clear hb
  rw [HV.out]
  simp only [ansE]
  go_wp2_with fail
  refine wp_region_quiet_later hm0 (by kernel_rfl) ?_
  repeat (quiet_step (fail))
  refine wpQuiet_nil ?_
  rintro _ ⟨p, rfl⟩
  have HB2 := Lib.hid (bel2 HB.out p.h)
  go_wp2_with fail
  go_ret
  exact ⟨rfl, HB2.out⟩
set_option maxHeartbeats 8000000 in
set_option maxRecDepth 100000 in
theorem mixed_other (s : ByteArray) (hs : s.size ≤ 1000) (w : World) (hG : Glob w) (j : Nat) (hj : Lib.lastIndexByte s 58 = (j : Int) - 1) (hjs : j ≤ s.size) (n : Nat) (hv : v4O (s.extract j s.size).data.toList = some n) (hne : ¬ tv4 n = (s.extract j s.size).data.toList) :
    Calls Tryd.prog 44 #[.string s] w fun e w' => e = .returned (.string s) ∧ Below w.heap.size w w' := by
  have HJ := Lib.hid hj
  have HC := Lib.hid (v4_is (s.extract j s.size) (by rw [ByteArray.size_extract]; omega) w hG)
  have HV := Lib.hid hv
  have hj2 : (j : Int) ≤ (s.size : Int) := by omega
  have hn := v4O_lt hv
  have HG := Lib.hid hG
  have hm0 : Tryd.prog.follows .mixedOrders = true := by kernel_rfl
  have hq : (tv4 n == (s.extract j s.size).toList) = false := by rw [beq_eq_false_iff_ne, ByteArray.toList_eq]; exact hne
  have hq2 : (tv4 n != (s.extract j s.size).toList) = true := by rw [bne_iff_ne, ne_eq, ByteArray.toList_eq]; exact hne
  clear hj hv hG hne
  go_enter Tryd.func44, Tryd.ntmps44
  go_wp2_with (go_at_call 30; refine (Tryd.strings_LastIndexByte s 58 (by omega) _).mono ?_; rintro e w' ⟨rfl, hw⟩; rw [hw, show Lib.lastIndexByte s 58 = (j : Int) - 1 from HJ.out])
  refine HC.out.mono ?_
  rintro e w1 ⟨rfl, hb⟩
  have HB := Lib.hid hb
  have HG1 := Lib.hid (HG.out.to hb)
  clear hb
  rw [HV.out]
  simp only [ansE]
  go_wp2_with fail
  have HT := Lib.hid (show ∀ p : Later w1, Calls Tryd.prog 17 #[.int .u32 n] p.v fun e w' => e = .returned (.string ⟨(tv4 n).toArray⟩) ∧ Below p.v.heap.size p.v w' from fun p => textV4_is n hn _ (HG1.out.to p.h))
  refine wp_region_quiet_later hm0 (by kernel_rfl) ?_
  repeat (quiet_step ((go_at_call 17; exact Calls.later_of (HT.out _))))
  refine wpQuiet_nil ?_
  rintro _ ⟨p, rfl⟩
  have HB2 := Lib.hid (bel2 HB.out p.h)
  clear hq hq2
  go_wp2_with fail
  go_ret
  exact ⟨rfl, HB2.out⟩
end Go.Proofs.YtamhmpgaapgmbaaDoor
