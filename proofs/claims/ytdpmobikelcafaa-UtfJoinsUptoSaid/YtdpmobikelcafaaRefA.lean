/-
  The contracts of the reference package bastionref01 for the sets: has and In answer what inB of the mathematics text says, for every set byte and every byte; the world is left as it was.
-/
import Derived.Test.YtdpmobikelcafaaPctD
namespace Go.Proofs.Ytdpmobikelcafaa
open Go.RowKit M
theorem ltg (a : ByteArray) (k : Nat) (h : k < a.size) : a.data.toList.take (k + 1) = a.data.toList.take k ++ [a[k]] := by
  rw [take_snoc _ _ (by simpa using h)]; rfl
set_option maxHeartbeats 400000 in
theorem rhas (l : ByteArray) (hl : l.size < 100) (L : List Nat) (hL : l.data.toList.map UInt8.toNat = L) (b : Nat) (w : World) :
    Calls Try.prog 48 #[.string l, .int .u8 b] w fun e w' => e = .returned (.bool (hasB L b)) ∧ w = w' := by
  have HL := Lib.hid hL
  clear hL
  go_enter Try.func48, Try.ntmps48
  go_wp2
  go_loop [5] (fun i => ∃ k : Nat, k ≤ l.size ∧ i = .int .i64 k ∧ Hid (hasB ((l.data.toList.take k).map UInt8.toNat) b = false)) (fun i => l.size - (intOf i).toNat)
  case atStart => exact ⟨0, by omega, rfl, Lib.hid rfl⟩
  case round =>
    obtain ⟨k, hk, rfl, HK⟩ := hrel
    by_cases hlt : k < l.size
    · by_cases he : l[k].toNat = b
      · have h0 : ((l[k].toNat : Int) == (b : Int)) = true := by rw [he]; simp
        have HR := Lib.hid (show hasB L b = true by
          rw [← HL.out, hasB, List.contains_eq_any_beq, List.any_eq_true]
          refine ⟨b, List.mem_map.2 ⟨l[k], ?_, he⟩, by simp⟩
          show l.data[k] ∈ l.data.toList
          exact Array.mem_toList_iff.2 (Array.getElem_mem _))
        clear he
        go_wp2
        go_ret
        exact ⟨ret_bool HR.out.symm, rfl⟩
      · have h0 : ((l[k].toNat : Int) == (b : Int)) = false := by rw [beq_eq_false_iff_ne]; omega
        have HS := Lib.hid (show hasB ((l.data.toList.take (k + 1)).map UInt8.toNat) b = false by
          rw [ltg l k hlt, List.map_append, hasB]
          have := HK.out
          unfold hasB at this
          simp only [List.contains_eq_any_beq, List.any_append, List.map_cons, List.map_nil, List.any_cons, List.any_nil, Bool.or_false] at this ⊢
          rw [this]; simp; omega)
        clear he
        go_wp2
        go_round
        case rel => exact ⟨k + 1, by omega, by go_num, HS⟩
        case measure => simp [intOf]; omega
    · have HR := Lib.hid (show hasB L b = false by
        have := HK.out
        rw [List.take_of_length_le (by simp; omega), HL.out] at this
        exact this)
      go_wp2
      go_ret
      exact ⟨ret_bool HR.out.symm, rfl⟩
theorem in_out : ∀ s, s < 9 → 0 < s → ∀ b, b < 256 → b < 32 ∨ 126 < b → inB s b = true := by decide +kernel
theorem in_mid1 : ∀ b, b < 256 → 32 ≤ b → b ≤ 126 → inB 1 b = false := by decide +kernel
theorem in_mid2 : ∀ b, b < 256 → 32 ≤ b → b ≤ 126 → inB 2 b = hasB [32, 34, 60, 62, 96] b := by decide +kernel
theorem in_mid3 : ∀ b, b < 256 → 32 ≤ b → b ≤ 126 → inB 3 b = hasB [32, 34, 35, 60, 62] b := by decide +kernel
theorem in_mid4 : ∀ b, b < 256 → 32 ≤ b → b ≤ 126 → inB 4 b = (inB 3 b || b == 39) := by decide +kernel
theorem in_mid5 : ∀ b, b < 256 → 32 ≤ b → b ≤ 126 → inB 5 b = (inB 3 b || hasB [63, 94, 96, 123, 125] b) := by decide +kernel
theorem in_mid6 : ∀ b, b < 256 → 32 ≤ b → b ≤ 126 → inB 6 b = (inB 5 b || hasB [47, 58, 59, 61, 64, 91, 92, 93, 124] b) := by decide +kernel
theorem in_mid7 : ∀ b, b < 256 → 32 ≤ b → b ≤ 126 → inB 7 b = (inB 6 b || hasB [36, 37, 38, 43, 44] b) := by decide +kernel
theorem in_mid8 : ∀ b, b < 256 → 32 ≤ b → b ≤ 126 → inB 8 b = (inB 7 b || hasB [33, 39, 40, 41, 126] b) := by decide +kernel
set_option maxHeartbeats 400000 in
theorem rin_out (s : Nat) (h0 : 0 < s) (h9 : s < 9) (b : Nat) (hb : b < 256) (ho : b < 32 ∨ 126 < b) (w : World) :
    Calls Try.prog 21 #[.int .u8 s, .int .u8 b] w fun e w' => e = .returned (.bool (inB s b)) ∧ w = w' := by
  have HR := Lib.hid (in_out s h9 h0 b hb ho)
  rcases ho with ho | ho
  all_goals
    go_enter Try.func21, Try.ntmps21
    go_wp2
    go_ret
    exact ⟨ret_bool HR.out.symm, rfl⟩
set_option maxHeartbeats 400000 in
theorem rin_bad (s : Nat) (hs : s < 256) (h : s = 0 ∨ 9 ≤ s) (b : Nat) (w : World) :
    Calls Try.prog 21 #[.int .u8 s, .int .u8 b] w fun e w' => e = .returned (.bool (inB s b)) ∧ w = w' := by
  have HR := Lib.hid (show inB s b = false by unfold inB; rw [if_pos h])
  rcases h with rfl | h
  all_goals
    go_enter Try.func21, Try.ntmps21
    go_wp2
    go_ret
    exact ⟨ret_bool HR.out.symm, rfl⟩
set_option maxHeartbeats 400000 in
theorem rin_1 (b : Nat) (hb : b < 256) (w : World) :
    Calls Try.prog 21 #[.int .u8 1, .int .u8 b] w fun e w' => e = .returned (.bool (inB 1 b)) ∧ w = w' := by
  by_cases ho : b < 32 ∨ 126 < b
  · exact rin_out 1 (by omega) (by omega) b hb ho w
  · have HM := Lib.hid (in_mid1 b hb (by omega) (by omega))
    obtain ⟨ha, hz⟩ : 32 ≤ b ∧ b ≤ 126 := by omega
    clear ho
    go_enter Try.func21, Try.ntmps21
    go_wp2
    go_ret
    exact ⟨ret_bool HM.out.symm, rfl⟩
set_option maxHeartbeats 400000 in
theorem rin_2 (b : Nat) (hb : b < 256) (w : World) :
    Calls Try.prog 21 #[.int .u8 2, .int .u8 b] w fun e w' => e = .returned (.bool (inB 2 b)) ∧ w = w' := by
  by_cases ho : b < 32 ∨ 126 < b
  · exact rin_out 2 (by omega) (by omega) b hb ho w
  · have HM := Lib.hid (in_mid2 b hb (by omega) (by omega))
    obtain ⟨ha, hz⟩ : 32 ≤ b ∧ b ≤ 126 := by omega
    clear ho
    go_enter Try.func21, Try.ntmps21
    go_wp2_with (go_at_call 48; refine (rhas _ (by decide) [32, 34, 60, 62, 96] (by decide) b _).mono ?_; rintro e w' ⟨rfl, rfl⟩)
    go_ret
    exact ⟨ret_bool HM.out.symm, rfl⟩
set_option maxHeartbeats 400000 in
theorem rin_3 (b : Nat) (hb : b < 256) (w : World) :
    Calls Try.prog 21 #[.int .u8 3, .int .u8 b] w fun e w' => e = .returned (.bool (inB 3 b)) ∧ w = w' := by
  by_cases ho : b < 32 ∨ 126 < b
  · exact rin_out 3 (by omega) (by omega) b hb ho w
  · have HM := Lib.hid (in_mid3 b hb (by omega) (by omega))
    obtain ⟨ha, hz⟩ : 32 ≤ b ∧ b ≤ 126 := by omega
    clear ho
    go_enter Try.func21, Try.ntmps21
    go_wp2_with (go_at_call 48; refine (rhas _ (by decide) [32, 34, 35, 60, 62] (by decide) b _).mono ?_; rintro e w' ⟨rfl, rfl⟩)
    go_ret
    exact ⟨ret_bool HM.out.symm, rfl⟩
set_option maxHeartbeats 400000 in
theorem rin_4 (b : Nat) (hb : b < 256) (w : World) :
    Calls Try.prog 21 #[.int .u8 4, .int .u8 b] w fun e w' => e = .returned (.bool (inB 4 b)) ∧ w = w' := by
  by_cases ho : b < 32 ∨ 126 < b
  · exact rin_out 4 (by omega) (by omega) b hb ho w
  · have HM := Lib.hid (in_mid4 b hb (by omega) (by omega))
    obtain ⟨ha, hz⟩ : 32 ≤ b ∧ b ≤ 126 := by omega
    clear ho
    by_cases h1 : inB 3 b = true
    · have HR := Lib.hid (show inB 4 b = true by rw [HM.out, h1]; rfl)
      go_enter Try.func21, Try.ntmps21
      go_wp2_with (go_at_call 21; refine (rin_3 b hb _).mono ?_; rintro e w' ⟨rfl, rfl⟩)
      go_ret
      exact ⟨ret_bool HR.out.symm, rfl⟩
    · have h2 : inB 3 b = false := by simpa using h1
      have HR := Lib.hid (show inB 4 b = ((b : Int) == 39) by rw [HM.out, h2, Bool.false_or, Bool.eq_iff_iff]; simp only [beq_iff_eq]; omega)
      clear h1
      go_enter Try.func21, Try.ntmps21
      go_wp2_with (go_at_call 21; refine (rin_3 b hb _).mono ?_; rintro e w' ⟨rfl, rfl⟩)
      go_ret
      exact ⟨ret_bool HR.out.symm, rfl⟩
set_option maxHeartbeats 400000 in
theorem rin_5 (b : Nat) (hb : b < 256) (w : World) :
    Calls Try.prog 21 #[.int .u8 5, .int .u8 b] w fun e w' => e = .returned (.bool (inB 5 b)) ∧ w = w' := by
  by_cases ho : b < 32 ∨ 126 < b
  · exact rin_out 5 (by omega) (by omega) b hb ho w
  · have HM := Lib.hid (in_mid5 b hb (by omega) (by omega))
    obtain ⟨ha, hz⟩ : 32 ≤ b ∧ b ≤ 126 := by omega
    clear ho
    by_cases h1 : inB 3 b = true
    · have HR := Lib.hid (show inB 5 b = true by rw [HM.out, h1]; rfl)
      go_enter Try.func21, Try.ntmps21
      go_wp2_with (go_at_call 21; refine (rin_3 b hb _).mono ?_; rintro e w' ⟨rfl, rfl⟩)
      go_ret
      exact ⟨ret_bool HR.out.symm, rfl⟩
    · have h2 : inB 3 b = false := by simpa using h1
      have HR := Lib.hid (show inB 5 b = hasB [63, 94, 96, 123, 125] b by rw [HM.out, h2, Bool.false_or])
      clear h1
      go_enter Try.func21, Try.ntmps21
      go_wp2_with (first | (go_at_call 21; refine (rin_3 b hb _).mono ?_; rintro e w' ⟨rfl, rfl⟩) | (go_at_call 48; refine (rhas _ (by decide) [63, 94, 96, 123, 125] (by decide) b _).mono ?_; rintro e w' ⟨rfl, rfl⟩))
      go_ret
      exact ⟨ret_bool HR.out.symm, rfl⟩
set_option maxHeartbeats 400000 in
theorem rin_6 (b : Nat) (hb : b < 256) (w : World) :
    Calls Try.prog 21 #[.int .u8 6, .int .u8 b] w fun e w' => e = .returned (.bool (inB 6 b)) ∧ w = w' := by
  by_cases ho : b < 32 ∨ 126 < b
  · exact rin_out 6 (by omega) (by omega) b hb ho w
  · have HM := Lib.hid (in_mid6 b hb (by omega) (by omega))
    obtain ⟨ha, hz⟩ : 32 ≤ b ∧ b ≤ 126 := by omega
    clear ho
    by_cases h1 : inB 5 b = true
    · have HR := Lib.hid (show inB 6 b = true by rw [HM.out, h1]; rfl)
      go_enter Try.func21, Try.ntmps21
      go_wp2_with (go_at_call 21; refine (rin_5 b hb _).mono ?_; rintro e w' ⟨rfl, rfl⟩)
      go_ret
      exact ⟨ret_bool HR.out.symm, rfl⟩
    · have h2 : inB 5 b = false := by simpa using h1
      have HR := Lib.hid (show inB 6 b = hasB [47, 58, 59, 61, 64, 91, 92, 93, 124] b by rw [HM.out, h2, Bool.false_or])
      clear h1
      go_enter Try.func21, Try.ntmps21
      go_wp2_with (first | (go_at_call 21; refine (rin_5 b hb _).mono ?_; rintro e w' ⟨rfl, rfl⟩) | (go_at_call 48; refine (rhas _ (by decide) [47, 58, 59, 61, 64, 91, 92, 93, 124] (by decide) b _).mono ?_; rintro e w' ⟨rfl, rfl⟩))
      go_ret
      exact ⟨ret_bool HR.out.symm, rfl⟩
set_option maxHeartbeats 400000 in
theorem rin_7 (b : Nat) (hb : b < 256) (w : World) :
    Calls Try.prog 21 #[.int .u8 7, .int .u8 b] w fun e w' => e = .returned (.bool (inB 7 b)) ∧ w = w' := by
  by_cases ho : b < 32 ∨ 126 < b
  · exact rin_out 7 (by omega) (by omega) b hb ho w
  · have HM := Lib.hid (in_mid7 b hb (by omega) (by omega))
    obtain ⟨ha, hz⟩ : 32 ≤ b ∧ b ≤ 126 := by omega
    clear ho
    by_cases h1 : inB 6 b = true
    · have HR := Lib.hid (show inB 7 b = true by rw [HM.out, h1]; rfl)
      go_enter Try.func21, Try.ntmps21
      go_wp2_with (go_at_call 21; refine (rin_6 b hb _).mono ?_; rintro e w' ⟨rfl, rfl⟩)
      go_ret
      exact ⟨ret_bool HR.out.symm, rfl⟩
    · have h2 : inB 6 b = false := by simpa using h1
      have HR := Lib.hid (show inB 7 b = hasB [36, 37, 38, 43, 44] b by rw [HM.out, h2, Bool.false_or])
      clear h1
      go_enter Try.func21, Try.ntmps21
      go_wp2_with (first | (go_at_call 21; refine (rin_6 b hb _).mono ?_; rintro e w' ⟨rfl, rfl⟩) | (go_at_call 48; refine (rhas _ (by decide) [36, 37, 38, 43, 44] (by decide) b _).mono ?_; rintro e w' ⟨rfl, rfl⟩))
      go_ret
      exact ⟨ret_bool HR.out.symm, rfl⟩
set_option maxHeartbeats 400000 in
theorem rin_8 (b : Nat) (hb : b < 256) (w : World) :
    Calls Try.prog 21 #[.int .u8 8, .int .u8 b] w fun e w' => e = .returned (.bool (inB 8 b)) ∧ w = w' := by
  by_cases ho : b < 32 ∨ 126 < b
  · exact rin_out 8 (by omega) (by omega) b hb ho w
  · have HM := Lib.hid (in_mid8 b hb (by omega) (by omega))
    obtain ⟨ha, hz⟩ : 32 ≤ b ∧ b ≤ 126 := by omega
    clear ho
    by_cases h1 : inB 7 b = true
    · have HR := Lib.hid (show inB 8 b = true by rw [HM.out, h1]; rfl)
      go_enter Try.func21, Try.ntmps21
      go_wp2_with (go_at_call 21; refine (rin_7 b hb _).mono ?_; rintro e w' ⟨rfl, rfl⟩)
      go_ret
      exact ⟨ret_bool HR.out.symm, rfl⟩
    · have h2 : inB 7 b = false := by simpa using h1
      have HR := Lib.hid (show inB 8 b = hasB [33, 39, 40, 41, 126] b by rw [HM.out, h2, Bool.false_or])
      clear h1
      go_enter Try.func21, Try.ntmps21
      go_wp2_with (first | (go_at_call 21; refine (rin_7 b hb _).mono ?_; rintro e w' ⟨rfl, rfl⟩) | (go_at_call 48; refine (rhas _ (by decide) [33, 39, 40, 41, 126] (by decide) b _).mono ?_; rintro e w' ⟨rfl, rfl⟩))
      go_ret
      exact ⟨ret_bool HR.out.symm, rfl⟩
theorem rin_any (s b : Nat) (hs : s < 256) (hb : b < 256) (w : World) : Calls Try.prog 21 #[.int .u8 s, .int .u8 b] w fun e w' => e = .returned (.bool (inB s b)) ∧ w = w' := by
  by_cases h0 : s = 0 ∨ 9 ≤ s
  · exact rin_bad s hs h0 b w
  · have h8 : s = 1 ∨ s = 2 ∨ s = 3 ∨ s = 4 ∨ s = 5 ∨ s = 6 ∨ s = 7 ∨ s = 8 := by omega
    rcases h8 with h | h | h | h | h | h | h | h <;> subst h
    · exact rin_1 b hb w
    · exact rin_2 b hb w
    · exact rin_3 b hb w
    · exact rin_4 b hb w
    · exact rin_5 b hb w
    · exact rin_6 b hb w
    · exact rin_7 b hb w
    · exact rin_8 b hb w
end Go.Proofs.Ytdpmobikelcafaa
