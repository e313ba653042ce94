import Derived.Test.YtamhmpgaapgmbaaDoorA1
import Derived.Lib.Strings
import Derived.Lib.Walk
import Derived.Lib.ConvBytes
import Derived.Lib.AtoiAllMem
import Derived.Lib.AtoiErrMem
import Derived.Laws.Strings3
import Derived.Laws.Closers25
import Derived.Laws.Closers25b
import Derived.BigCall
import Derived.BigGuard
namespace Go.Proofs.YtamhmpgaapgmbaaDoor
open Go.RowKit
/-- the number, or the greatest one there is -/
def PuRet (n : Nat) (e : Ending) : Prop := ∃ v, e = .returned (.tuple #[.int .u64 n, v]) ∧ (v = .nilIface ∨ v = .iface 102 (.int .i64 1))
theorem or_low (c : Nat) (h : 65 ≤ c) (h' : c ≤ 70) : bits .or .u8 (c : Int) 32 = (c : Int) + 32 := by
  have : c = 65 ∨ c = 66 ∨ c = 67 ∨ c = 68 ∨ c = 69 ∨ c = 70 := by omega
  rcases this with rfl | rfl | rfl | rfl | rfl | rfl <;> decide
theorem or_same (c : Nat) (h : 97 ≤ c) (h' : c ≤ 102) : bits .or .u8 (c : Int) 32 = (c : Int) := by
  have : c = 97 ∨ c = 98 ∨ c = 99 ∨ c = 100 ∨ c = 101 ∨ c = 102 := by omega
  rcases this with rfl | rfl | rfl | rfl | rfl | rfl <;> decide
set_option maxHeartbeats 400000 in
theorem lower_great (c : Nat) (h : 65 ≤ c) (h' : c ≤ 70) (w : World) : Calls Tryd.prog 79 #[.int .u8 c] w fun e w' => e = .returned (.int .u8 ((c : Int) + 32)) ∧ w = w' := by
  have HL := Lib.hid (or_low c h h')
  go_enter Tryd.func79, Tryd.ntmps79
  go_wp2
  go_ret
  exact ⟨ret_int HL.out, rfl⟩
set_option maxHeartbeats 400000 in
theorem lower_small (c : Nat) (h : 97 ≤ c) (h' : c ≤ 102) (w : World) : Calls Tryd.prog 79 #[.int .u8 c] w fun e w' => e = .returned (.int .u8 (c : Int)) ∧ w = w' := by
  have HL := Lib.hid (or_same c h h')
  go_enter Tryd.func79, Tryd.ntmps79
  go_wp2
  go_ret
  exact ⟨ret_int HL.out, rfl⟩
theorem cap_big (n : Nat) (h : 18446744073709551616 ≤ n) : cap n = 18446744073709551615 := if_neg (by omega)
theorem bel_bytes (w : World) (t : ByteArray) : Below w.heap.size w (Lib.bytesWorld w 5 t) := Lib.bytesWorld_below w 5 t
theorem pu_ok (n m : Nat) (a : Int) (h : a = (m : Int)) (hm : cap n = m) : PuRet (cap n) (.returned (.tuple #[.int .u64 a, .nilIface])) := ⟨.nilIface, by rw [h, hm], .inl rfl⟩
theorem pu_big (n : Nat) (h : cap n = 18446744073709551615) : PuRet (cap n) (.returned (.tuple #[.int .u64 18446744073709551615, .iface 102 (.int .i64 1)])) := ⟨_, by rw [h]; rfl, .inr rfl⟩
set_option maxHeartbeats 16000000 in
set_option maxRecDepth 100000 in
theorem pu10 (t : ByteArray) (hne : t.size ≠ 0) (hmax : t.size ≤ 140737488355328) (hd : ∀ (k : Nat) (h : k < t.size), (48 ≤ t[k].toNat ∧ t[k].toNat ≤ 57)) (w : World) :
    Calls Tryd.prog 66 #[.string t, .int .i64 10, .int .i64 64] w fun e w' => PuRet (cap (numL 10 t.data.toList)) e ∧ w' = Lib.bytesWorld w 5 t := by
  have hemp : t.toList.isEmpty = false := by
    rw [← decide_eq_emptyBytes]
    exact decide_eq_false (fun h => hne (by rw [h]; rfl))
  have hcv := Lib.run_convert_string_bytes (P := Tryd.prog) w 9 56 5 t (u := .string) Tryd.underlying9 Tryd.underlying56 Tryd.underlying5
  have hB : ∀ j (h : j < t.size), (Lib.bytesWorld w 5 t).cell? ⟨w.heap.size, j, none⟩ = some (.int .u8 t[j].toNat) := fun j hj => by
    rw [Lib.bytesWorld_cell w 5 t j hj]
    rw [List.getD_eq_getElem?_getD, List.getElem?_eq_getElem (by simpa using hj)]
    rfl
  obtain ⟨W1, hW1⟩ : ∃ W1, W1 = Lib.bytesWorld w 5 t := ⟨_, rfl⟩
  rw [← hW1] at hcv hB ⊢
  clear hW1
  have HB := Lib.hid hB
  have HD := Lib.hid hd
  clear hB hd
  have hmv : IntKind.u64.wrap (IntKind.u64.wrap 18446744073709551616 - 1) = 18446744073709551615 := by
    rw [IntKind.wrap_u64, IntKind.wrap_u64]
    decide
  go_enter Tryd.func66, Tryd.ntmps66
  go_wp2
  go_loop [12, 13, 101] (fun vu vn vi => ∃ (k acc : Nat) (a : Int), vu = .bool false ∧ vn = .int .u64 a ∧ vi = .int .i64 k ∧ k ≤ t.size ∧ Hid (a = (acc : Int) ∧ acc < 18446744073709551616 ∧ numL 10 (t.data.toList.take k) = acc))
    (fun _ _ vi => t.size - (intOf vi).toNat)
  case atStart => exact ⟨0, 0, 0, rfl, rfl, rfl, by omega, rfl, by omega, rfl⟩
  case round =>
    obtain ⟨k, acc, a, rfl, rfl, rfl, hk, hh⟩ := hrel
    obtain ⟨ha, hacc, hdec⟩ := hh.out
    clear hh
    have a0 : 0 ≤ a := by omega
    have a1 : a < 18446744073709551616 := by omega
    by_cases hkn : k < t.size
    · have hc := HB.out k hkn
      have hv := HD.out k hkn
      have hS := numL_take_succ 10 t.data.toList k (by simpa using hkn)
      have hle := numL_take_le 10 (by omega) t.data.toList (k + 1)
      rw [hdec] at hS
      have hget : t.data.toList[k]'(by simpa using hkn) = t[k] := rfl
      rw [hget] at hS
      generalize t[k] = c at hc hv hS
      have hc256 : c.toNat < 256 := c.toNat_lt
      clear hget hdec
      rcases hv with ⟨hd0, hd1⟩
      · have hdv : dv c.toNat = c.toNat - 48 := by unfold dv; rw [if_pos (by omega)]
        rw [hdv] at hS
        by_cases hcut : 1844674407370955162 ≤ acc
        · have HF := Lib.hid (cap_big (numL 10 t.data.toList) (by omega))
          have icut : 1844674407370955162 ≤ a := by omega
          clear hcut hacc ha hS hle hdv
          go_wp2
          go_ret2
          exact ⟨pu_big _ HF.out, rfl⟩
        · by_cases hov : 18446744073709551616 ≤ acc * 10 + (c.toNat - 48)
          · have HF := Lib.hid (cap_big (numL 10 t.data.toList) (by omega))
            have icut : a < 1844674407370955162 := by omega
            have iov : 18446744073709551616 ≤ a * 10 + ((c.toNat : Int) - 48) := by omega
            have hwr : IntKind.u64.wrap (a * 10 + ((c.toNat : Int) - 48)) = a * 10 + ((c.toNat : Int) - 48) - 18446744073709551616 := by
              rw [IntKind.wrap_u64]
              omega
            clear hcut hacc hov ha hS hle hdv
            go_wp2
            go_ret2
            exact ⟨pu_big _ HF.out, rfl⟩
          · have HN : Hid (a * 10 + ((c.toNat : Int) - 48) = ((acc * 10 + (c.toNat - 48) : Nat) : Int) ∧ acc * 10 + (c.toNat - 48) < 18446744073709551616 ∧ numL 10 (t.data.toList.take (k + 1)) = acc * 10 + (c.toNat - 48)) := Lib.hid ⟨by omega, by omega, hS⟩
            have icut : a < 1844674407370955162 := by omega
            have iov : a * 10 + ((c.toNat : Int) - 48) < 18446744073709551616 := by omega
            clear hcut hacc hov ha hS hle hdv
            go_wp2
            refine ⟨⟨k + 1, acc * 10 + (c.toNat - 48), a * 10 + ((c.toNat : Int) - 48), rfl, (by first | rfl | (congr 1; omega)), (by first | rfl | (congr 1; omega)), by omega, HN⟩, by simp [intOf]; omega⟩
    · have hkk : k = t.size := by omega
      subst hkk
      have HF := Lib.hid (show cap (numL 10 t.data.toList) = acc by rw [List.take_of_length_le (by simp)] at hdec; rw [hdec]; exact cap_of _ hacc)
      have HA := Lib.hid ha
      clear hacc hdec ha
      go_wp2
      go_ret2
      exact ⟨pu_ok _ _ _ HA.out HF.out, rfl⟩
end Go.Proofs.YtamhmpgaapgmbaaDoor
