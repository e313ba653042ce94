import Derived.Test.YtflddokngplgiaaDoorA1M
namespace Go.Proofs.YtflddokngplgiaaDoor
open Go.RowKit
set_option maxHeartbeats 16000000 in
set_option maxRecDepth 100000 in
theorem pu16 (t : ByteArray) (hne : t.size ≠ 0) (hmax : t.size ≤ 140737488355328) (hd : ∀ (k : Nat) (h : k < t.size), (48 ≤ t[k].toNat ∧ t[k].toNat ≤ 57) ∨ (97 ≤ t[k].toNat ∧ t[k].toNat ≤ 102) ∨ (65 ≤ t[k].toNat ∧ t[k].toNat ≤ 70)) (w : World) :
    Calls Tryd.prog 66 #[.string t, .int .i64 16, .int .i64 64] w fun e w' => PuRet (cap (numL 16 t.data.toList)) e ∧ w' = Lib.bytesWorld w 5 t := by
  have hemp : t.toList.isEmpty = false := by
    rw [← decide_eq_emptyBytes]
    exact decide_eq_false (fun h => hne (by rw [h]; rfl))
  have hcv := Lib.run_convert_string_bytes (P := Tryd.prog) w 9 56 5 t (u := .string) Tryd.underlying9 Tryd.underlying56 Tryd.underlying5
  have hB : ∀ j (h : j < t.size), (Lib.bytesWorld w 5 t).cell? ⟨w.heap.size, j, none⟩ = some (.int .u8 t[j].toNat) := fun j hj => by
    rw [Lib.bytesWorld_cell w 5 t j hj]
    rw [List.getD_eq_getElem?_getD, List.getElem?_eq_getElem (by simpa using hj)]
    rfl
  obtain ⟨W1, hW1⟩ : ∃ W1, W1 = Lib.bytesWorld w 5 t := ⟨_, rfl⟩
  rw [← hW1] at hcv hB ⊢
  clear hW1
  have HB := Lib.hid hB
  have HD := Lib.hid hd
  clear hB hd
  have hmv : IntKind.u64.wrap (IntKind.u64.wrap 18446744073709551616 - 1) = 18446744073709551615 := by
    rw [IntKind.wrap_u64, IntKind.wrap_u64]
    decide
  go_enter Tryd.func66, Tryd.ntmps66
  go_wp2
  go_loop [12, 13, 101] (fun vu vn vi => ∃ (k acc : Nat) (a : Int), vu = .bool false ∧ vn = .int .u64 a ∧ vi = .int .i64 k ∧ k ≤ t.size ∧ Hid (a = (acc : Int) ∧ acc < 18446744073709551616 ∧ numL 16 (t.data.toList.take k) = acc))
    (fun _ _ vi => t.size - (intOf vi).toNat)
  case atStart => exact ⟨0, 0, 0, rfl, rfl, rfl, by omega, rfl, by omega, rfl⟩
  case round =>
    obtain ⟨k, acc, a, rfl, rfl, rfl, hk, hh⟩ := hrel
    obtain ⟨ha, hacc, hdec⟩ := hh.out
    clear hh
    have a0 : 0 ≤ a := by omega
    have a1 : a < 18446744073709551616 := by omega
    by_cases hkn : k < t.size
    · have hc := HB.out k hkn
      have hv := HD.out k hkn
      have hS := numL_take_succ 16 t.data.toList k (by simpa using hkn)
      have hle := numL_take_le 16 (by omega) t.data.toList (k + 1)
      rw [hdec] at hS
      have hget : t.data.toList[k]'(by simpa using hkn) = t[k] := rfl
      rw [hget] at hS
      generalize t[k] = c at hc hv hS
      have hc256 : c.toNat < 256 := c.toNat_lt
      clear hget hdec
      rcases hv with ⟨hd0, hd1⟩ | ⟨hd0, hd1⟩ | ⟨hd0, hd1⟩
      · have hdv : dv c.toNat = c.toNat - 48 := by unfold dv; rw [if_pos (by omega)]
        rw [hdv] at hS
        by_cases hcut : 1152921504606846976 ≤ acc
        · have HF := Lib.hid (cap_big (numL 16 t.data.toList) (by omega))
          have icut : 1152921504606846976 ≤ a := by omega
          clear hcut hacc ha hS hle hdv
          go_wp2
          go_ret2
          exact ⟨pu_big _ HF.out, rfl⟩
        · by_cases hov : 18446744073709551616 ≤ acc * 16 + (c.toNat - 48)
          · exfalso; omega
          · have HN : Hid (a * 16 + ((c.toNat : Int) - 48) = ((acc * 16 + (c.toNat - 48) : Nat) : Int) ∧ acc * 16 + (c.toNat - 48) < 18446744073709551616 ∧ numL 16 (t.data.toList.take (k + 1)) = acc * 16 + (c.toNat - 48)) := Lib.hid ⟨by omega, by omega, hS⟩
            have icut : a < 1152921504606846976 := by omega
            have iov : a * 16 + ((c.toNat : Int) - 48) < 18446744073709551616 := by omega
            clear hcut hacc hov ha hS hle hdv
            go_wp2
            refine ⟨⟨k + 1, acc * 16 + (c.toNat - 48), a * 16 + ((c.toNat : Int) - 48), rfl, (by first | rfl | (congr 1; omega)), (by first | rfl | (congr 1; omega)), by omega, HN⟩, by simp [intOf]; omega⟩
      · have hdv : dv c.toNat = c.toNat - 87 := by unfold dv; rw [if_neg (by omega), if_neg (by omega)]
        rw [hdv] at hS
        by_cases hcut : 1152921504606846976 ≤ acc
        · have HF := Lib.hid (cap_big (numL 16 t.data.toList) (by omega))
          have icut : 1152921504606846976 ≤ a := by omega
          clear hcut hacc ha hS hle hdv
          go_wp2_with (go_at_call 79; refine (lower_small _ hd0 hd1 _).mono ?_; rintro e w' ⟨rfl, rfl⟩)
          go_ret2
          exact ⟨pu_big _ HF.out, rfl⟩
        · by_cases hov : 18446744073709551616 ≤ acc * 16 + (c.toNat - 87)
          · exfalso; omega
          · have HN : Hid (a * 16 + ((c.toNat : Int) - 87) = ((acc * 16 + (c.toNat - 87) : Nat) : Int) ∧ acc * 16 + (c.toNat - 87) < 18446744073709551616 ∧ numL 16 (t.data.toList.take (k + 1)) = acc * 16 + (c.toNat - 87)) := Lib.hid ⟨by omega, by omega, hS⟩
            have icut : a < 1152921504606846976 := by omega
            have iov : a * 16 + ((c.toNat : Int) - 87) < 18446744073709551616 := by omega
            clear hcut hacc hov ha hS hle hdv
            go_wp2_with (go_at_call 79; refine (lower_small _ hd0 hd1 _).mono ?_; rintro e w' ⟨rfl, rfl⟩)
            refine ⟨⟨k + 1, acc * 16 + (c.toNat - 87), a * 16 + ((c.toNat : Int) - 87), rfl, (by first | rfl | (congr 1; omega)), (by first | rfl | (congr 1; omega)), by omega, HN⟩, by simp [intOf]; omega⟩
      · have hdv : dv c.toNat = c.toNat - 55 := by unfold dv; rw [if_neg (by omega), if_pos (by omega)]
        rw [hdv] at hS
        by_cases hcut : 1152921504606846976 ≤ acc
        · have HF := Lib.hid (cap_big (numL 16 t.data.toList) (by omega))
          have icut : 1152921504606846976 ≤ a := by omega
          clear hcut hacc ha hS hle hdv
          go_wp2_with (go_at_call 79; refine (lower_great _ hd0 hd1 _).mono ?_; rintro e w' ⟨rfl, rfl⟩)
          go_ret2
          exact ⟨pu_big _ HF.out, rfl⟩
        · by_cases hov : 18446744073709551616 ≤ acc * 16 + (c.toNat - 55)
          · exfalso; omega
          · have HN : Hid (a * 16 + ((c.toNat : Int) - 55) = ((acc * 16 + (c.toNat - 55) : Nat) : Int) ∧ acc * 16 + (c.toNat - 55) < 18446744073709551616 ∧ numL 16 (t.data.toList.take (k + 1)) = acc * 16 + (c.toNat - 55)) := Lib.hid ⟨by omega, by omega, hS⟩
            have icut : a < 1152921504606846976 := by omega
            have iov : a * 16 + ((c.toNat : Int) - 55) < 18446744073709551616 := by omega
            clear hcut hacc hov ha hS hle hdv
            go_wp2_with (go_at_call 79; refine (lower_great _ hd0 hd1 _).mono ?_; rintro e w' ⟨rfl, rfl⟩)
            refine ⟨⟨k + 1, acc * 16 + (c.toNat - 55), a * 16 + ((c.toNat : Int) - 55), rfl, (by first | rfl | (congr 1; omega)), (by first | rfl | (congr 1; omega)), by omega, HN⟩, by simp [intOf]; omega⟩
    · have hkk : k = t.size := by omega
      subst hkk
      have HF := Lib.hid (show cap (numL 16 t.data.toList) = acc by rw [List.take_of_length_le (by simp)] at hdec; rw [hdec]; exact cap_of _ hacc)
      have HA := Lib.hid ha
      clear hacc hdec ha
      go_wp2
      go_ret2
      exact ⟨pu_ok _ _ _ HA.out HF.out, rfl⟩
end Go.Proofs.YtflddokngplgiaaDoor
