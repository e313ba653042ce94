import Derived.Test.YtnjnhgeafbofkaaDoorPctCM
/-
  The contracts of the reference package bastionref01 for the sets: has and In answer what inB of the mathematics text says, for every set byte and every byte; the world is left as it was.
-/
namespace Go.Proofs.YtnjnhgeafbofkaaDoor
open Go.RowKit M
theorem ltg (a : ByteArray) (k : Nat) (h : k < a.size) : a.data.toList.take (k + 1) = a.data.toList.take k ++ [a[k]] := by
  rw [take_snoc _ _ (by simpa using h)]; rfl
set_option maxHeartbeats 400000 in
theorem rhas (l : ByteArray) (hl : l.size < 100) (L : List Nat) (hL : l.data.toList.map UInt8.toNat = L) (b : Nat) (w : World) :
    Calls Tryd.prog 90 #[.string l, .int .u8 b] w fun e w' => e = .returned (.bool (hasB L b)) ∧ w = w' := by
  have HL := Lib.hid hL
  clear hL
  go_enter Tryd.func90, Tryd.ntmps90
  go_wp2
  go_loop [5] (fun i => ∃ k : Nat, k ≤ l.size ∧ i = .int .i64 k ∧ Hid (hasB ((l.data.toList.take k).map UInt8.toNat) b = false)) (fun i => l.size - (intOf i).toNat)
  case atStart => exact ⟨0, by omega, rfl, Lib.hid rfl⟩
  case round =>
    obtain ⟨k, hk, rfl, HK⟩ := hrel
    by_cases hlt : k < l.size
    · by_cases he : l[k].toNat = b
      · have h0 : ((l[k].toNat : Int) == (b : Int)) = true := by rw [he]; simp
        have HR := Lib.hid (show hasB L b = true by
          rw [← HL.out, hasB, List.contains_eq_any_beq, List.any_eq_true]
          refine ⟨b, List.mem_map.2 ⟨l[k], ?_, he⟩, by simp⟩
          show l.data[k] ∈ l.data.toList
          exact Array.mem_toList_iff.2 (Array.getElem_mem _))
        clear he
        go_wp2
        go_ret
        exact ⟨ret_bool HR.out.symm, rfl⟩
      · have h0 : ((l[k].toNat : Int) == (b : Int)) = false := by rw [beq_eq_false_iff_ne]; omega
        have HS := Lib.hid (show hasB ((l.data.toList.take (k + 1)).map UInt8.toNat) b = false by
          rw [ltg l k hlt, List.map_append, hasB]
          have := HK.out
          unfold hasB at this
          simp only [List.contains_eq_any_beq, List.any_append, List.map_cons, List.map_nil, List.any_cons, List.any_nil, Bool.or_false] at this ⊢
          rw [this]; simp; omega)
        clear he
        go_wp2
        go_round
        case rel => exact ⟨k + 1, by omega, by go_num, HS⟩
        case measure => simp [intOf]; omega
    · have HR := Lib.hid (show hasB L b = false by
        have := HK.out
        rw [List.take_of_length_le (by simp; omega), HL.out] at this
        exact this)
      go_wp2
      go_ret
      exact ⟨ret_bool HR.out.symm, rfl⟩
theorem in_out : ∀ s, s < 9 → 0 < s → ∀ b, b < 256 → b < 32 ∨ 126 < b → inB s b = true := by decide +kernel
theorem in_mid1 : ∀ b, b < 256 → 32 ≤ b → b ≤ 126 → inB 1 b = false := by decide +kernel
theorem in_mid2 : ∀ b, b < 256 → 32 ≤ b → b ≤ 126 → inB 2 b = hasB [32, 34, 60, 62, 96] b := by decide +kernel
theorem in_mid3 : ∀ b, b < 256 → 32 ≤ b → b ≤ 126 → inB 3 b = hasB [32, 34, 35, 60, 62] b := by decide +kernel
theorem in_mid4 : ∀ b, b < 256 → 32 ≤ b → b ≤ 126 → inB 4 b = (inB 3 b || b == 39) := by decide +kernel
theorem in_mid5 : ∀ b, b < 256 → 32 ≤ b → b ≤ 126 → inB 5 b = (inB 3 b || hasB [63, 94, 96, 123, 125] b) := by decide +kernel
theorem in_mid6 : ∀ b, b < 256 → 32 ≤ b → b ≤ 126 → inB 6 b = (inB 5 b || hasB [47, 58, 59, 61, 64, 91, 92, 93, 124] b) := by decide +kernel
theorem in_mid7 : ∀ b, b < 256 → 32 ≤ b → b ≤ 126 → inB 7 b = (inB 6 b || hasB [36, 37, 38, 43, 44] b) := by decide +kernel
theorem in_mid8 : ∀ b, b < 256 → 32 ≤ b → b ≤ 126 → inB 8 b = (inB 7 b || hasB [33, 39, 40, 41, 126] b) := by decide +kernel
set_option maxHeartbeats 400000 in
theorem rin_out (s : Nat) (h0 : 0 < s) (h9 : s < 9) (b : Nat) (hb : b < 256) (ho : b < 32 ∨ 126 < b) (w : World) :
    Calls Tryd.prog 70 #[.int .u8 s, .int .u8 b] w fun e w' => e = .returned (.bool (inB s b)) ∧ w = w' := by
  have HR := Lib.hid (in_out s h9 h0 b hb ho)
  rcases ho with ho | ho
  all_goals
    go_enter Tryd.func70, Tryd.ntmps70
    go_wp2
    go_ret
    exact ⟨ret_bool HR.out.symm, rfl⟩
set_option maxHeartbeats 400000 in
theorem rin_bad (s : Nat) (hs : s < 256) (h : s = 0 ∨ 9 ≤ s) (b : Nat) (w : World) :
    Calls Tryd.prog 70 #[.int .u8 s, .int .u8 b] w fun e w' => e = .returned (.bool (inB s b)) ∧ w = w' := by
  have HR := Lib.hid (show inB s b = false by unfold inB; rw [if_pos h])
  rcases h with rfl | h
  all_goals
    go_enter Tryd.func70, Tryd.ntmps70
    go_wp2
    go_ret
    exact ⟨ret_bool HR.out.symm, rfl⟩
set_option maxHeartbeats 400000 in
theorem rin_1 (b : Nat) (hb : b < 256) (w : World) :
    Calls Tryd.prog 70 #[.int .u8 1, .int .u8 b] w fun e w' => e = .returned (.bool (inB 1 b)) ∧ w = w' := by
  by_cases ho : b < 32 ∨ 126 < b
  · exact rin_out 1 (by omega) (by omega) b hb ho w
  · have HM := Lib.hid (in_mid1 b hb (by omega) (by omega))
    obtain ⟨ha, hz⟩ : 32 ≤ b ∧ b ≤ 126 := by omega
    clear ho
    go_enter Tryd.func70, Tryd.ntmps70
    go_wp2
    go_ret
    exact ⟨ret_bool HM.out.symm, rfl⟩
set_option maxHeartbeats 400000 in
theorem rin_2 (b : Nat) (hb : b < 256) (w : World) :
    Calls Tryd.prog 70 #[.int .u8 2, .int .u8 b] w fun e w' => e = .returned (.bool (inB 2 b)) ∧ w = w' := by
  by_cases ho : b < 32 ∨ 126 < b
  · exact rin_out 2 (by omega) (by omega) b hb ho w
  · have HM := Lib.hid (in_mid2 b hb (by omega) (by omega))
    obtain ⟨ha, hz⟩ : 32 ≤ b ∧ b ≤ 126 := by omega
    clear ho
    go_enter Tryd.func70, Tryd.ntmps70
    go_wp2_with (go_at_call 90; refine (rhas _ (by decide) [32, 34, 60, 62, 96] (by decide) b _).mono ?_; rintro e w' ⟨rfl, rfl⟩)
    go_ret
    exact ⟨ret_bool HM.out.symm, rfl⟩
set_option maxHeartbeats 400000 in
theorem rin_3 (b : Nat) (hb : b < 256) (w : World) :
    Calls Tryd.prog 70 #[.int .u8 3, .int .u8 b] w fun e w' => e = .returned (.bool (inB 3 b)) ∧ w = w' := by
  by_cases ho : b < 32 ∨ 126 < b
  · exact rin_out 3 (by omega) (by omega) b hb ho w
  · have HM := Lib.hid (in_mid3 b hb (by omega) (by omega))
    obtain ⟨ha, hz⟩ : 32 ≤ b ∧ b ≤ 126 := by omega
    clear ho
    go_enter Tryd.func70, Tryd.ntmps70
    go_wp2_with (go_at_call 90; refine (rhas _ (by decide) [32, 34, 35, 60, 62] (by decide) b _).mono ?_; rintro e w' ⟨rfl, rfl⟩)
    go_ret
    exact ⟨ret_bool HM.out.symm, rfl⟩
set_option maxHeartbeats 400000 in
theorem rin_4 (b : Nat) (hb : b < 256) (w : World) :
    Calls Tryd.prog 70 #[.int .u8 4, .int .u8 b] w fun e w' => e = .returned (.bool (inB 4 b)) ∧ w = w' := by
  by_cases ho : b < 32 ∨ 126 < b
  · exact rin_out 4 (by omega) (by omega) b hb ho w
  · have HM := Lib.hid (in_mid4 b hb (by omega) (by omega))
    obtain ⟨ha, hz⟩ : 32 ≤ b ∧ b ≤ 126 := by omega
    clear ho
    by_cases h1 : inB 3 b = true
    · have HR := Lib.hid (show inB 4 b = true by rw [HM.out, h1]; rfl)
      go_enter Tryd.func70, Tryd.ntmps70
      go_wp2_with (go_at_call 70; refine (rin_3 b hb _).mono ?_; rintro e w' ⟨rfl, rfl⟩)
      go_ret
      exact ⟨ret_bool HR.out.symm, rfl⟩
    · have h2 : inB 3 b = false := by simpa using h1
      have HR := Lib.hid (show inB 4 b = ((b : Int) == 39) by rw [HM.out, h2, Bool.false_or, Bool.eq_iff_iff]; simp only [beq_iff_eq]; omega)
      clear h1
      go_enter Tryd.func70, Tryd.ntmps70
      go_wp2_with (go_at_call 70; refine (rin_3 b hb _).mono ?_; rintro e w' ⟨rfl, rfl⟩)
      go_ret
      exact ⟨ret_bool HR.out.symm, rfl⟩
set_option maxHeartbeats 400000 in
theorem rin_5 (b : Nat) (hb : b < 256) (w : World) :
    Calls Tryd.prog 70 #[.int .u8 5, .int .u8 b] w fun e w' => e = .returned (.bool (inB 5 b)) ∧ w = w' := by
  by_cases ho : b < 32 ∨ 126 < b
  · exact rin_out 5 (by omega) (by omega) b hb ho w
  · have HM := Lib.hid (in_mid5 b hb (by omega) (by omega))
    obtain ⟨ha, hz⟩ : 32 ≤ b ∧ b ≤ 126 := by omega
    clear ho
    by_cases h1 : inB 3 b = true
    · have HR := Lib.hid (show inB 5 b = true by rw [HM.out, h1]; rfl)
      go_enter Tryd.func70, Tryd.ntmps70
      go_wp2_with (go_at_call 70; refine (rin_3 b hb _).mono ?_; rintro e w' ⟨rfl, rfl⟩)
      go_ret
      exact ⟨ret_bool HR.out.symm, rfl⟩
    · have h2 : inB 3 b = false := by simpa using h1
      have HR := Lib.hid (show inB 5 b = hasB [63, 94, 96, 123, 125] b by rw [HM.out, h2, Bool.false_or])
      clear h1
      go_enter Tryd.func70, Tryd.ntmps70
      go_wp2_with (first | (go_at_call 70; refine (rin_3 b hb _).mono ?_; rintro e w' ⟨rfl, rfl⟩) | (go_at_call 90; refine (rhas _ (by decide) [63, 94, 96, 123, 125] (by decide) b _).mono ?_; rintro e w' ⟨rfl, rfl⟩))
      go_ret
      exact ⟨ret_bool HR.out.symm, rfl⟩
set_option maxHeartbeats 400000 in
theorem rin_6 (b : Nat) (hb : b < 256) (w : World) :
    Calls Tryd.prog 70 #[.int .u8 6, .int .u8 b] w fun e w' => e = .returned (.bool (inB 6 b)) ∧ w = w' := by
  by_cases ho : b < 32 ∨ 126 < b
  · exact rin_out 6 (by omega) (by omega) b hb ho w
  · have HM := Lib.hid (in_mid6 b hb (by omega) (by omega))
    obtain ⟨ha, hz⟩ : 32 ≤ b ∧ b ≤ 126 := by omega
    clear ho
    by_cases h1 : inB 5 b = true
    · have HR := Lib.hid (show inB 6 b = true by rw [HM.out, h1]; rfl)
      go_enter Tryd.func70, Tryd.ntmps70
      go_wp2_with (go_at_call 70; refine (rin_5 b hb _).mono ?_; rintro e w' ⟨rfl, rfl⟩)
      go_ret
      exact ⟨ret_bool HR.out.symm, rfl⟩
    · have h2 : inB 5 b = false := by simpa using h1
      have HR := Lib.hid (show inB 6 b = hasB [47, 58, 59, 61, 64, 91, 92, 93, 124] b by rw [HM.out, h2, Bool.false_or])
      clear h1
      go_enter Tryd.func70, Tryd.ntmps70
      go_wp2_with (first | (go_at_call 70; refine (rin_5 b hb _).mono ?_; rintro e w' ⟨rfl, rfl⟩) | (go_at_call 90; refine (rhas _ (by decide) [47, 58, 59, 61, 64, 91, 92, 93, 124] (by decide) b _).mono ?_; rintro e w' ⟨rfl, rfl⟩))
      go_ret
      exact ⟨ret_bool HR.out.symm, rfl⟩
set_option maxHeartbeats 400000 in
theorem rin_7 (b : Nat) (hb : b < 256) (w : World) :
    Calls Tryd.prog 70 #[.int .u8 7, .int .u8 b] w fun e w' => e = .returned (.bool (inB 7 b)) ∧ w = w' := by
  by_cases ho : b < 32 ∨ 126 < b
  · exact rin_out 7 (by omega) (by omega) b hb ho w
  · have HM := Lib.hid (in_mid7 b hb (by omega) (by omega))
    obtain ⟨ha, hz⟩ : 32 ≤ b ∧ b ≤ 126 := by omega
    clear ho
    by_cases h1 : inB 6 b = true
    · have HR := Lib.hid (show inB 7 b = true by rw [HM.out, h1]; rfl)
      go_enter Tryd.func70, Tryd.ntmps70
      go_wp2_with (go_at_call 70; refine (rin_6 b hb _).mono ?_; rintro e w' ⟨rfl, rfl⟩)
      go_ret
      exact ⟨ret_bool HR.out.symm, rfl⟩
    · have h2 : inB 6 b = false := by simpa using h1
      have HR := Lib.hid (show inB 7 b = hasB [36, 37, 38, 43, 44] b by rw [HM.out, h2, Bool.false_or])
      clear h1
      go_enter Tryd.func70, Tryd.ntmps70
      go_wp2_with (first | (go_at_call 70; refine (rin_6 b hb _).mono ?_; rintro e w' ⟨rfl, rfl⟩) | (go_at_call 90; refine (rhas _ (by decide) [36, 37, 38, 43, 44] (by decide) b _).mono ?_; rintro e w' ⟨rfl, rfl⟩))
      go_ret
      exact ⟨ret_bool HR.out.symm, rfl⟩
set_option maxHeartbeats 400000 in
theorem rin_8 (b : Nat) (hb : b < 256) (w : World) :
    Calls Tryd.prog 70 #[.int .u8 8, .int .u8 b] w fun e w' => e = .returned (.bool (inB 8 b)) ∧ w = w' := by
  by_cases ho : b < 32 ∨ 126 < b
  · exact rin_out 8 (by omega) (by omega) b hb ho w
  · have HM := Lib.hid (in_mid8 b hb (by omega) (by omega))
    obtain ⟨ha, hz⟩ : 32 ≤ b ∧ b ≤ 126 := by omega
    clear ho
    by_cases h1 : inB 7 b = true
    · have HR := Lib.hid (show inB 8 b = true by rw [HM.out, h1]; rfl)
      go_enter Tryd.func70, Tryd.ntmps70
      go_wp2_with (go_at_call 70; refine (rin_7 b hb _).mono ?_; rintro e w' ⟨rfl, rfl⟩)
      go_ret
      exact ⟨ret_bool HR.out.symm, rfl⟩
    · have h2 : inB 7 b = false := by simpa using h1
      have HR := Lib.hid (show inB 8 b = hasB [33, 39, 40, 41, 126] b by rw [HM.out, h2, Bool.false_or])
      clear h1
      go_enter Tryd.func70, Tryd.ntmps70
      go_wp2_with (first | (go_at_call 70; refine (rin_7 b hb _).mono ?_; rintro e w' ⟨rfl, rfl⟩) | (go_at_call 90; refine (rhas _ (by decide) [33, 39, 40, 41, 126] (by decide) b _).mono ?_; rintro e w' ⟨rfl, rfl⟩))
      go_ret
      exact ⟨ret_bool HR.out.symm, rfl⟩
theorem rin_any (s b : Nat) (hs : s < 256) (hb : b < 256) (w : World) : Calls Tryd.prog 70 #[.int .u8 s, .int .u8 b] w fun e w' => e = .returned (.bool (inB s b)) ∧ w = w' := by
  by_cases h0 : s = 0 ∨ 9 ≤ s
  · exact rin_bad s hs h0 b w
  · have h8 : s = 1 ∨ s = 2 ∨ s = 3 ∨ s = 4 ∨ s = 5 ∨ s = 6 ∨ s = 7 ∨ s = 8 := by omega
    rcases h8 with h | h | h | h | h | h | h | h <;> subst h
    · exact rin_1 b hb w
    · exact rin_2 b hb w
    · exact rin_3 b hb w
    · exact rin_4 b hb w
    · exact rin_5 b hb w
    · exact rin_6 b hb w
    · exact rin_7 b hb w
    · exact rin_8 b hb w
end Go.Proofs.YtnjnhgeafbofkaaDoor
/-
  The contracts of the reference package bastionref01 for a hexadecimal digit and for the case of letters: Digit, Lower, Upper and Same answer what the plain functions of the mathematics text answer. Condition: a text of at most 2^47 bytes. Nothing that was there is changed.
-/
namespace Go.Proofs.YtnjnhgeafbofkaaDoor
open Go.RowKit M
theorem hexv_cases : ∀ k : Fin 16, ∀ b, b < 256 → (hexv b = k.1 ↔ (((⟨#[48, 49, 50, 51, 52, 53, 54, 55, 56, 57, 65, 66, 67, 68, 69, 70]⟩ : ByteArray)[k.1]'(k.2)).toNat = b ∨ (9 < k.1 ∧ ((⟨#[48, 49, 50, 51, 52, 53, 54, 55, 56, 57, 65, 66, 67, 68, 69, 70]⟩ : ByteArray)[k.1]'(k.2)).toNat + 32 = b))) := by decide +kernel
theorem tab_le : ∀ k : Fin 16, ((⟨#[48, 49, 50, 51, 52, 53, 54, 55, 56, 57, 65, 66, 67, 68, 69, 70]⟩ : ByteArray)[k.1]'(k.2)).toNat ≤ 70 := by decide +kernel
set_option maxHeartbeats 1000000 in
theorem rdigit (b : Nat) (hb : b < 256) (w : World) :
    Calls Tryd.prog 102 #[.int .u8 b] w fun e w' => e = .returned (.int .u8 (hexv b)) ∧ w = w' := by
  go_enter Tryd.func102, Tryd.ntmps102
  go_wp2
  go_loop [3] (fun i => ∃ k : Nat, k ≤ 16 ∧ i = .int .u8 k ∧ Hid (k ≤ hexv b)) (fun i => 16 - (intOf i).toNat)
  case atStart => exact ⟨0, by omega, rfl, Lib.hid (Nat.zero_le _)⟩
  case round =>
    obtain ⟨k, hk, rfl, HK⟩ := hrel
    by_cases hlt : k < 16
    · have hc := hexv_cases ⟨k, hlt⟩ b hb
      have hl := tab_le ⟨k, hlt⟩
      have hsz : k < (⟨#[48, 49, 50, 51, 52, 53, 54, 55, 56, 57, 65, 66, 67, 68, 69, 70]⟩ : ByteArray).size := hlt
      by_cases he : hexv b = k
      · have HE := Lib.hid he
        by_cases h1 : ((⟨#[48, 49, 50, 51, 52, 53, 54, 55, 56, 57, 65, 66, 67, 68, 69, 70]⟩ : ByteArray)[k]'(hlt)).toNat = b
        · have t1 : ((((⟨#[48, 49, 50, 51, 52, 53, 54, 55, 56, 57, 65, 66, 67, 68, 69, 70]⟩ : ByteArray)[k]'(hlt)).toNat : Int) == (b : Int)) = true := by rw [h1]; simp
          clear he hc h1
          go_wp2
          go_ret
          exact ⟨ret_int (by rw [HE.out]), rfl⟩
        · have t1 : ((((⟨#[48, 49, 50, 51, 52, 53, 54, 55, 56, 57, 65, 66, 67, 68, 69, 70]⟩ : ByteArray)[k]'(hlt)).toNat : Int) == (b : Int)) = false := by rw [beq_eq_false_iff_ne]; omega
          obtain ⟨h9, h32⟩ := (hc.1 he).resolve_left h1
          have t2 : ((((⟨#[48, 49, 50, 51, 52, 53, 54, 55, 56, 57, 65, 66, 67, 68, 69, 70]⟩ : ByteArray)[k]'(hlt)).toNat : Int) + 32 == (b : Int)) = true := by rw [beq_iff_eq]; have h32' := h32; simp only at h32'; omega
          have h9' : 9 < k := h9
          have hl' : ((⟨#[48, 49, 50, 51, 52, 53, 54, 55, 56, 57, 65, 66, 67, 68, 69, 70]⟩ : ByteArray)[k]'(hlt)).toNat ≤ 70 := hl
          clear he hc h1 h32 h9 hl
          go_wp2
          go_ret
          exact ⟨ret_int (by rw [HE.out]), rfl⟩
      · have HS := Lib.hid (show k + 1 ≤ hexv b by have := HK.out; omega)
        have hn1 : ¬ ((⟨#[48, 49, 50, 51, 52, 53, 54, 55, 56, 57, 65, 66, 67, 68, 69, 70]⟩ : ByteArray)[k]'(hlt)).toNat = b := fun h => he (hc.2 (.inl h))
        have hn2 : ¬ (9 < k ∧ ((⟨#[48, 49, 50, 51, 52, 53, 54, 55, 56, 57, 65, 66, 67, 68, 69, 70]⟩ : ByteArray)[k]'(hlt)).toNat + 32 = b) := fun h => he (hc.2 (.inr h))
        have t1 : ((((⟨#[48, 49, 50, 51, 52, 53, 54, 55, 56, 57, 65, 66, 67, 68, 69, 70]⟩ : ByteArray)[k]'(hlt)).toNat : Int) == (b : Int)) = false := by rw [beq_eq_false_iff_ne]; omega
        have hl' : ((⟨#[48, 49, 50, 51, 52, 53, 54, 55, 56, 57, 65, 66, 67, 68, 69, 70]⟩ : ByteArray)[k]'(hlt)).toNat ≤ 70 := hl
        by_cases h9 : 9 < k
        · have t2 : ((((⟨#[48, 49, 50, 51, 52, 53, 54, 55, 56, 57, 65, 66, 67, 68, 69, 70]⟩ : ByteArray)[k]'(hlt)).toNat : Int) + 32 == (b : Int)) = false := by rw [beq_eq_false_iff_ne]; omega
          clear he hc hn1 hn2 hl
          go_wp2
          go_round
          case rel => exact ⟨k + 1, by omega, by go_num, HS⟩
          case measure => simp [intOf]; omega
        · clear he hc hn1 hn2 hl
          go_wp2
          go_round
          case rel => exact ⟨k + 1, by omega, by go_num, HS⟩
          case measure => simp [intOf]; omega
    · have HR := Lib.hid (show hexv b = 16 by have := HK.out; have := hexv_le b; omega)
      go_wp2
      go_ret
      exact ⟨ret_int (by rw [HR.out]; rfl), rfl⟩
/-- the byte list as a row of the call's own -/
def OwnY (base : Nat) (v : Value) (l : List UInt8) (w : World) : Prop := w.ownsRow base 5 1 v l.length (Lib.byteCells l)
theorem own_back {P : Program} {w : World} {B : Nat} {v : Value} {l : List UInt8} (h : OwnY B v l w) (hs : P.underlying 45 = some (.slice 5)) (he : P.underlying 5 = some (.int .u8)) (hd : P.underlying 9 = some .string) :
    (convert 45 9 v).run P w = .ok (.string ⟨l.toArray⟩) w := by
  rcases h.2 with ⟨rfl, h0⟩ | ⟨g, cap, cur, rfl, hB, hg, hnc, hmx, hsz, htk⟩
  · have : l = [] := List.eq_nil_of_length_eq_zero h0
    subst this
    exact run_convert_bytes_nil w 45 5 hs he 0 0 9 hd
  · exact run_convert_bytes_back w 45 9 5 ⟨g, 0, none⟩ cap l hs he hd (fun j hj => by
      have e : (⟨g, 0, none⟩ : Addr).add j = ⟨g, j, none⟩ := by unfold Addr.add; split <;> simp_all
      rw [e, cell_of_row _ _ j _ _ _ hg]
      have h1 := congrArg (fun x => x[j]?) htk
      simp only [List.getElem?_take, Array.getElem?_toList] at h1
      rw [if_pos (by omega)] at h1
      rw [h1]
      simp [Lib.byteCells, hj])
theorem ownY_snoc {B : Nat} {v' : Value} {l : List UInt8} {c : UInt8} {w : World} (h : w.ownsRow B 5 1 v' (l.length + 1) (Lib.byteCells l ++ [.int .u8 c.toNat])) : OwnY B v' (l ++ [c]) w := by
  show w.ownsRow B 5 1 v' (l ++ [c]).length _
  rw [Lib.byteCells_append, List.length_append]
  exact h
theorem low_step (s : ByteArray) (k : Nat) (h : k < s.size) (f : UInt8 → UInt8) : (s.data.toList.take (k + 1)).map f = (s.data.toList.take k).map f ++ [f s[k]] := by
  rw [ltg s k h, List.map_append]; rfl
theorem lit_one (w : World) (c : Int) : ∀ j u, ([Value.int .u8 c])[j]? = some u → (w.alloc (.cells #[.int .u8 c] 5)).cell? ((⟨w.heap.size, 0, none⟩ : Addr).add j) = some u := by
  intro j u hj
  match j, hj with
  | 0, hj => simp at hj; subst hj; simp [Addr.add]
theorem one_cell (c : Int) : ∀ u ∈ [Value.int .u8 c], u.oneCell' = true := by intro u hu; simp at hu; subst hu; rfl
end Go.Proofs.YtnjnhgeafbofkaaDoor
