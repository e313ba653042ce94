import Derived.Test.YthdodmbopchfdaaPB
import Derived.Test.YthdodmbopchfdaaPM
namespace Go.Proofs.Ythdodmbopchfdaa
open Go.RowKit P
set_option maxHeartbeats 400000 in
theorem thr_is (k b t : Int) (ht : thr k b = t) (h0 : 0 ≤ k) (h1 : k ≤ 100000000000) (h2 : 0 ≤ b) (h3 : b ≤ 100000000000) (w : World) : Calls Try.prog 43 #[.int .i64 k, .int .i64 b] w fun e w' => e = .returned (.int .i64 t) ∧ w = w' := by
  unfold thr at ht
  by_cases c1 : k - b < 1
  · rw [if_pos c1] at ht
    subst ht
    go_enter Try.func43, Try.ntmps43
    go_wp2
    go_ret
    exact ⟨ret_int (by omega), rfl⟩
  · rw [if_neg c1] at ht
    by_cases c2 : 26 < k - b
    · rw [if_pos c2] at ht
      subst ht
      go_enter Try.func43, Try.ntmps43
      go_wp2
      go_ret
      exact ⟨ret_int (by omega), rfl⟩
    · rw [if_neg c2] at ht
      subst ht
      go_enter Try.func43, Try.ntmps43
      go_wp2
      go_ret
      exact ⟨ret_int (by omega), rfl⟩
set_option maxHeartbeats 400000 in
theorem rthr_is (k b t : Int) (ht : thr k b = t) (h0 : 0 ≤ k) (h1 : k ≤ 100000000000) (h2 : 0 ≤ b) (h3 : b ≤ 100000000000) (w : World) : Calls Try.prog 23 #[.int .i64 k, .int .i64 b] w fun e w' => e = .returned (.int .i64 t) ∧ w = w' := by
  unfold thr at ht
  by_cases c1 : k - b < 1
  · rw [if_pos c1] at ht
    subst ht
    go_enter Try.func23, Try.ntmps23
    go_wp2
    go_ret
    exact ⟨ret_int (by omega), rfl⟩
  · rw [if_neg c1] at ht
    by_cases c2 : 26 < k - b
    · rw [if_pos c2] at ht
      subst ht
      go_enter Try.func23, Try.ntmps23
      go_wp2
      go_ret
      exact ⟨ret_int (by omega), rfl⟩
    · rw [if_neg c2] at ht
      subst ht
      go_enter Try.func23, Try.ntmps23
      go_wp2
      go_ret
      exact ⟨ret_int (by omega), rfl⟩
def digZ (n : Int) : Int := if n < 26 then 97 + n else 22 + n
theorem digZ_lo {n : Int} (h : n < 26) : digZ n = 97 + n := by unfold digZ; rw [if_pos h]
theorem digZ_hi {n : Int} (h : ¬ n < 26) : digZ n = 22 + n := by unfold digZ; rw [if_neg h]
theorem digZ_bd {n : Int} (h0 : 0 ≤ n) (h1 : n ≤ 35) : 48 ≤ digZ n ∧ digZ n ≤ 122 := by unfold digZ; split <;> omega
set_option maxHeartbeats 400000 in
theorem digit_is (n d : Int) (hd : digZ n = d) (h0 : 0 ≤ n) (h1 : n ≤ 35) (w : World) : Calls Try.prog 53 #[.int .i64 n] w fun e w' => e = .returned (.int .u8 d) ∧ w = w' := by
  by_cases c : n < 26
  · rw [digZ_lo c] at hd
    subst hd
    go_enter Try.func53, Try.ntmps53
    go_wp2
    go_ret
    exact ⟨ret_int (by omega), rfl⟩
  · rw [digZ_hi c] at hd
    subst hd
    go_enter Try.func53, Try.ntmps53
    go_wp2
    go_ret
    exact ⟨ret_int (by omega), rfl⟩
set_option maxHeartbeats 400000 in
theorem rdigit_is (n d : Int) (hd : digZ n = d) (h0 : 0 ≤ n) (h1 : n ≤ 35) (w : World) : Calls Try.prog 30 #[.int .i64 n] w fun e w' => e = .returned (.int .u8 d) ∧ w = w' := by
  by_cases c : n < 26
  · rw [digZ_lo c] at hd
    subst hd
    go_enter Try.func30, Try.ntmps30
    go_wp2
    go_ret
    exact ⟨ret_int (by omega), rfl⟩
  · rw [digZ_hi c] at hd
    subst hd
    go_enter Try.func30, Try.ntmps30
    go_wp2
    go_ret
    exact ⟨ret_int (by omega), rfl⟩
set_option maxHeartbeats 1000000 in
theorem bias_is (d m b : Int) (f : Bool) (hb : bias d m f = b) (h0 : 0 ≤ d) (h1 : d ≤ 4294967296) (h2 : 1 ≤ m) (h3 : m ≤ 100000) (w : World) : Calls Try.prog 33 #[.int .i64 d, .int .i64 m, .bool f] w fun e w' => e = .returned (.int .i64 b) ∧ w = w' := by
  have hq := bias0_bd (first := f) h0 h2
  unfold bias at hb
  obtain ⟨q, hq2⟩ : ∃ q, bias0 d m f = q := ⟨_, rfl⟩
  rw [hq2] at hq hb
  have HB := Lib.hid hb
  clear hb
  unfold bias0 at hq2
  cases f with
  | true =>
    simp only [if_true] at hq2
    have e1 : 0 ≤ d / 700 / m := Int.ediv_nonneg (by omega) (by omega)
    have e2 : d / 700 / m ≤ d / 700 := Int.ediv_le_self _ (by omega)
    have HQ := Lib.hid hq2
    clear hq2
    go_enter Try.func33, Try.ntmps33
    go_wp2
    rw [HQ.out]
    go_loop [0, 7] (fun x k => ∃ (fu : Nat) (y z : Int), x = .int .i64 y ∧ k = .int .i64 z ∧ 0 ≤ y ∧ 0 ≤ z ∧ y ≤ 8589934592 ∧ z + y ≤ 8589934592 ∧ y ≤ fu ∧ Hid (biasF fu y z = b)) (fun x _ => (intOf x).toNat)
    case atStart => exact ⟨q.toNat, q, 0, rfl, rfl, by omega, by omega, by omega, by omega, by omega, HB⟩
    case round =>
      obtain ⟨fu, y, z, rfl, rfl, y0, z0, y1, yz, hf, H⟩ := hrel
      by_cases c : 455 < y
      · obtain ⟨fu, rfl⟩ : ∃ g, fu = g + 1 := ⟨fu - 1, by omega⟩
        have H2 := Lib.hid ((biasF_more c).symm.trans H.out)
        clear H
        go_wp2
        go_round
        case rel => exact ⟨fu, y / 35, z + 36, rfl, rfl, by omega, by omega, by omega, by omega, by omega, H2⟩
        case measure => simp [intOf]; omega
      · have H2 := Lib.hid ((biasF_end c).symm.trans H.out)
        have hfr := frac_bd y0
        clear H
        go_wp2
        go_ret
        exact ⟨ret_int H2.out, rfl⟩
  | false =>
    simp only [Bool.false_eq_true, if_false] at hq2
    have e1 : 0 ≤ d / 2 / m := Int.ediv_nonneg (by omega) (by omega)
    have e2 : d / 2 / m ≤ d / 2 := Int.ediv_le_self _ (by omega)
    have HQ := Lib.hid hq2
    clear hq2
    go_enter Try.func33, Try.ntmps33
    go_wp2
    rw [HQ.out]
    go_loop [0, 7] (fun x k => ∃ (fu : Nat) (y z : Int), x = .int .i64 y ∧ k = .int .i64 z ∧ 0 ≤ y ∧ 0 ≤ z ∧ y ≤ 8589934592 ∧ z + y ≤ 8589934592 ∧ y ≤ fu ∧ Hid (biasF fu y z = b)) (fun x _ => (intOf x).toNat)
    case atStart => exact ⟨q.toNat, q, 0, rfl, rfl, by omega, by omega, by omega, by omega, by omega, HB⟩
    case round =>
      obtain ⟨fu, y, z, rfl, rfl, y0, z0, y1, yz, hf, H⟩ := hrel
      by_cases c : 455 < y
      · obtain ⟨fu, rfl⟩ : ∃ g, fu = g + 1 := ⟨fu - 1, by omega⟩
        have H2 := Lib.hid ((biasF_more c).symm.trans H.out)
        clear H
        go_wp2
        go_round
        case rel => exact ⟨fu, y / 35, z + 36, rfl, rfl, by omega, by omega, by omega, by omega, by omega, H2⟩
        case measure => simp [intOf]; omega
      · have H2 := Lib.hid ((biasF_end c).symm.trans H.out)
        have hfr := frac_bd y0
        clear H
        go_wp2
        go_ret
        exact ⟨ret_int H2.out, rfl⟩
end Go.Proofs.Ythdodmbopchfdaa
