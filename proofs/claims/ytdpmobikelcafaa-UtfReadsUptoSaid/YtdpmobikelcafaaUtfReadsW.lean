/-
  The walk of bastionlaw02.UtfReads: it answers true for every text of at most 1048576 bytes, and changes nothing that was there.
-/
import Derived.Test.YtdpmobikelcafaaUtfQ
namespace Go.Proofs.Ytdpmobikelcafaa
open Go.RowKit
set_option maxHeartbeats 1000000 in
theorem rscalar_is (u : ByteArray) (T : List UInt8) (hT : U.scal u.data.toList = T) (hu : u.size * 4 ≤ 140737488355328) (w : World) :
    Calls Try.prog 37 #[.string u] w fun e w' => e = .returned (.string ⟨T.toArray⟩) ∧ Below w.heap.size w w' := by
  have hc := (U.runes_count u.data.toList).1
  rw [len_list] at hc
  go_enter Try.func37, Try.ntmps37
  go_wp2_with fail
  refine (rdecode_runes u _ rfl hu _).mono ?_
  rintro e w1 ⟨v, rfl, hA, hb1⟩
  go_wp2_with fail
  refine (rencode_runes v _ T hT (by omega) _ hA).mono ?_
  rintro e w2 ⟨rfl, hb2⟩
  go_wp2
  go_ret
  exact ⟨rfl, bel2 hb1 hb2⟩
set_option maxHeartbeats 1000000 in
theorem rvalid_is (u : ByteArray) (b : Bool) (hb : U.good u.data.toList = b) (hu : u.size * 4 ≤ 140737488355328) (w : World) :
    Calls Try.prog 35 #[.string u] w fun e w' => e = .returned (.bool b) ∧ Below w.heap.size w w' := by
  obtain ⟨T, HT⟩ : ∃ T, Hid (U.scal u.data.toList = T) := ⟨_, Lib.hid rfl⟩
  have hiff := U.good_iff u.data.toList
  rw [HT.out, hb] at hiff
  cases b with
  | true =>
    have hTt := hiff.1 rfl
    have he : T == u.toList := by rw [hTt, ByteArray.toList_eq]; simp
    clear hiff hTt
    go_enter Try.func35, Try.ntmps35
    go_wp2_with fail
    refine (rscalar_is u T HT.out hu _).mono ?_
    rintro e w1 ⟨rfl, hb1⟩
    go_wp2
    go_ret
    exact ⟨rfl, hb1⟩
  | false =>
    have hTt : ¬ T = u.data.toList := fun h => by have := hiff.2 h; cases this
    have he : (T == u.toList) = false := by rw [beq_eq_false_iff_ne, ByteArray.toList_eq]; exact hTt
    clear hiff hTt
    go_enter Try.func35, Try.ntmps35
    go_wp2_with fail
    refine (rscalar_is u T HT.out hu _).mono ?_
    rintro e w1 ⟨rfl, hb1⟩
    go_wp2
    go_ret
    exact ⟨rfl, hb1⟩
set_option maxHeartbeats 2000000 in
theorem UtfReads_walk (u : ByteArray) (hu : u.size ≤ 1048576) (w : World) :
    Calls Try.prog 11 #[.string u] w fun e w' => e = .returned (.bool true) ∧ Below w.heap.size w w' := by
  obtain ⟨R, HR⟩ : ∃ R, Hid (U.runesZ u.data.toList = R) := ⟨_, Lib.hid rfl⟩
  obtain ⟨T, HT⟩ : ∃ T, Hid (U.scal u.data.toList = T) := ⟨_, Lib.hid rfl⟩
  obtain ⟨b, HB⟩ : ∃ b, Hid (U.good u.data.toList = b) := ⟨_, Lib.hid rfl⟩
  have hc := (U.runes_count u.data.toList).1
  rw [len_list, HR.out] at hc
  go_enter Try.func11, Try.ntmps11
  go_wp2_with fail
  refine (lives2 _).mono ?_
  rintro e w1 ⟨rfl, hb1⟩
  go_wp2_with fail
  refine (decode_runes u R HR.out (by omega) _).mono ?_
  rintro e w2 ⟨v2, rfl, hr2, hb2⟩
  have hA := hr2.at
  go_wp2_with fail
  refine (rdecode_runes u R HR.out (by omega) _).mono ?_
  rintro e w3 ⟨v3, rfl, hA3, hb3⟩
  go_wp2_with fail
  refine (same_is _ _ R R true (by simp) (by omega) _ (hA.below hb3) hA3).mono ?_
  rintro e w4 ⟨rfl, hb4⟩
  go_wp2_with fail
  refine (valid_is u b HB.out (by unfold maxLen; omega) _).mono ?_
  rintro e w5 ⟨rfl, hb5⟩
  go_wp2_with fail
  refine (rvalid_is u b HB.out (by omega) _).mono ?_
  rintro e w6 ⟨rfl, hb6⟩
  go_wp2_with fail
  refine (scalar_is u T HT.out (by omega) _).mono ?_
  rintro e w7 ⟨rfl, hb7⟩
  go_wp2_with fail
  refine (rscalar_is u T HT.out (by omega) _).mono ?_
  rintro e w8 ⟨rfl, hb8⟩
  go_wp2
  go_ret
  exact ⟨rfl, bel2 (bel2 (bel2 (bel2 (bel2 (bel2 (bel2 hb1 hb2) hb3) hb4) hb5) hb6) hb7) hb8⟩
end Go.Proofs.Ytdpmobikelcafaa
