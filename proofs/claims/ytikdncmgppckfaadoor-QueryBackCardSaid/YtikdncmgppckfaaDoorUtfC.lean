import Derived.Test.YtikdncmgppckfaaDoorUtfB
import Derived.BigQuiet
import Derived.Deep.QuietTactic
namespace Go.Proofs.YtikdncmgppckfaaDoor
open Go.RowKit
def wid (b : Nat) : Nat := if b < 128 then 1 else if b < 194 then 0 else if b < 224 then 2 else if b < 240 then 3 else if b < 245 then 4 else 0
set_option maxRecDepth 20000 in
set_option maxHeartbeats 1000000 in
theorem begun_any (b : Nat) (hb : b < 256) (w : World) : Calls Tryd.prog 83 #[.int .u8 b] w fun e w' => e = .returned (.int .i64 (wid b)) ∧ w = w' := by
  by_cases h1 : b < 128
  · have H := Lib.hid (show wid b = 1 by unfold wid; rw [if_pos h1])
    go_enter Tryd.func83, Tryd.ntmps83
    go_wp2
    go_ret
    exact ⟨ret_i64 (by rw [H.out]; rfl), rfl⟩
  · by_cases h2 : b < 194
    · have H := Lib.hid (show wid b = 0 by unfold wid; rw [if_neg h1, if_pos h2])
      go_enter Tryd.func83, Tryd.ntmps83
      go_wp2
      go_ret
      exact ⟨ret_i64 (by rw [H.out]; rfl), rfl⟩
    · by_cases h3 : b < 224
      · have H := Lib.hid (show wid b = 2 by unfold wid; rw [if_neg h1, if_neg h2, if_pos h3])
        go_enter Tryd.func83, Tryd.ntmps83
        go_wp2
        go_ret
        exact ⟨ret_i64 (by rw [H.out]; rfl), rfl⟩
      · by_cases h4 : b < 240
        · have H := Lib.hid (show wid b = 3 by unfold wid; rw [if_neg h1, if_neg h2, if_neg h3, if_pos h4])
          go_enter Tryd.func83, Tryd.ntmps83
          go_wp2
          go_ret
          exact ⟨ret_i64 (by rw [H.out]; rfl), rfl⟩
        · by_cases h5 : b < 245
          · have H := Lib.hid (show wid b = 4 by unfold wid; rw [if_neg h1, if_neg h2, if_neg h3, if_neg h4, if_pos h5])
            go_enter Tryd.func83, Tryd.ntmps83
            go_wp2
            go_ret
            exact ⟨ret_i64 (by rw [H.out]; rfl), rfl⟩
          · have H := Lib.hid (show wid b = 0 by unfold wid; rw [if_neg h1, if_neg h2, if_neg h3, if_neg h4, if_neg h5])
            go_enter Tryd.func83, Tryd.ntmps83
            go_wp2
            go_ret
            exact ⟨ret_i64 (by rw [H.out]; rfl), rfl⟩
def slo (b : Nat) : Nat := if b = 224 then 160 else if b = 240 then 144 else 128
def shi (b : Nat) : Nat := if b = 237 then 159 else if b = 244 then 143 else 191
theorem ret_bb {a b c d : Int} (h : a = b) (h2 : c = d) : Ending.returned (.tuple #[.int .u8 a, .int .u8 c]) = Ending.returned (.tuple #[.int .u8 b, .int .u8 d]) := by rw [h, h2]
set_option maxHeartbeats 400000 in
theorem second_any (b : Nat) (hb : b < 256) (w : World) : Calls Tryd.prog 84 #[.int .u8 b] w fun e w' => e = .returned (.tuple #[.int .u8 (slo b), .int .u8 (shi b)]) ∧ w = w' := by
  by_cases h1 : b = 224
  · subst h1
    go_enter Tryd.func84, Tryd.ntmps84
    go_wp2
    go_ret2
    exact ⟨rfl, rfl⟩
  · by_cases h2 : b = 237
    · subst h2
      go_enter Tryd.func84, Tryd.ntmps84
      go_wp2
      go_ret2
      exact ⟨rfl, rfl⟩
    · by_cases h3 : b = 240
      · subst h3
        go_enter Tryd.func84, Tryd.ntmps84
        go_wp2
        go_ret2
        exact ⟨rfl, rfl⟩
      · by_cases h4 : b = 244
        · subst h4
          go_enter Tryd.func84, Tryd.ntmps84
          go_wp2
          go_ret2
          exact ⟨rfl, rfl⟩
        · have H1 := Lib.hid (show slo b = 128 by unfold slo; rw [if_neg h1, if_neg h3])
          have H2 := Lib.hid (show shi b = 191 by unfold shi; rw [if_neg h2, if_neg h4])
          go_enter Tryd.func84, Tryd.ntmps84
          go_wp2
          go_ret2
          exact ⟨ret_bb (by rw [H1.out]; rfl) (by rw [H2.out]; rfl), rfl⟩
theorem and_mask (b i m : Nat) (hm : m = 2 ^ i - 1) (hi : i ≤ 30) (hb : b < 256) : bits BinOp.and IntKind.i32 (b : Int) (m : Int) = ((b % 2 ^ i : Nat) : Int) := by
  have h2 : 2 ^ i ≤ 2 ^ 30 := Nat.pow_le_pow_right (by omega) hi
  have h1 : (BitVec.ofInt 32 (b : Int)).toNat = b := by rw [BitVec.ofInt_natCast, BitVec.toNat_ofNat]; exact Nat.mod_eq_of_lt (by omega)
  have h3 : (BitVec.ofInt 32 (m : Int)).toNat = m := by rw [BitVec.ofInt_natCast, BitVec.toNat_ofNat]; exact Nat.mod_eq_of_lt (by omega)
  show IntKind.i32.wrap ((BitVec.ofInt 32 (b : Int) &&& BitVec.ofInt 32 (m : Int)).toNat : Int) = _
  rw [BitVec.toNat_and, h1, h3, hm, Nat.and_two_pow_sub_one_eq_mod]
  have : b % 2 ^ i ≤ b := Nat.mod_le _ _
  rw [IntKind.wrap_i32]; omega
theorem or_low (r x : Nat) (hr : r < 2 ^ 24) (hx : x < 64) : bits BinOp.or IntKind.i32 ((r : Int) * 64) (x : Int) = ((64 * r + x : Nat) : Int) := by
  have e : ((r : Int) * 64) = ((r * 64 : Nat) : Int) := by omega
  have h1 : (BitVec.ofInt 32 ((r * 64 : Nat) : Int)).toNat = r * 64 := by rw [BitVec.ofInt_natCast, BitVec.toNat_ofNat]; exact Nat.mod_eq_of_lt (by omega)
  have h3 : (BitVec.ofInt 32 (x : Int)).toNat = x := by rw [BitVec.ofInt_natCast, BitVec.toNat_ofNat]; exact Nat.mod_eq_of_lt (by omega)
  rw [e]
  show IntKind.i32.wrap ((BitVec.ofInt 32 ((r * 64 : Nat) : Int) ||| BitVec.ofInt 32 (x : Int)).toNat : Int) = _
  rw [BitVec.toNat_or, h1, h3, nat_join 6 (r * 64) x (by omega) (by omega), IntKind.wrap_i32]; omega
end Go.Proofs.YtikdncmgppckfaaDoor
