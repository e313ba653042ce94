import Derived.Test.YtikdncmgppckfaaDoorUB
namespace Go.Proofs.YtikdncmgppckfaaDoor
open Go.RowKit
theorem i32b (r : Int) (h : (Lit.int .i32 r).wf = true) : -2147483648 ≤ r ∧ r ≤ 2147483647 := by simpa [Lit.wf, IntKind.min, IntKind.max, IntKind.signed, IntKind.bits] using h
set_option maxHeartbeats 400000 in
theorem may_any (r : Int) (w : World) : Calls Tryd.prog 97 #[.int .i32 r] w fun e w' => e = .returned (.bool (decide (U.May r))) ∧ w = w' := by
  have H : Hid ((U.May r → decide (U.May r) = true) ∧ (¬ U.May r → decide (U.May r) = false)) := Lib.hid ⟨fun h => by simp [h], fun h => by simp [h]⟩
  by_cases h0 : 0 ≤ r
  · by_cases h1 : r ≤ 1114111
    · by_cases h2 : r < 55296
      · go_enter Tryd.func97, Tryd.ntmps97
        go_wp2
        go_ret
        exact ⟨ret_bool (by rw [H.out.1 (by unfold U.May; omega)]), rfl⟩
      · by_cases h3 : 57343 < r
        · go_enter Tryd.func97, Tryd.ntmps97
          go_wp2
          go_ret
          exact ⟨ret_bool (by rw [H.out.1 (by unfold U.May; omega)]), rfl⟩
        · go_enter Tryd.func97, Tryd.ntmps97
          go_wp2
          go_ret
          exact ⟨ret_bool (by rw [H.out.2 (by unfold U.May; omega)]), rfl⟩
    · go_enter Tryd.func97, Tryd.ntmps97
      go_wp2
      go_ret
      exact ⟨ret_bool (by rw [H.out.2 (by unfold U.May; omega)]), rfl⟩
  · go_enter Tryd.func97, Tryd.ntmps97
    go_wp2
    go_ret
    exact ⟨ret_bool (by rw [H.out.2 (by unfold U.May; omega)]), rfl⟩
theorem may_yes (r : Int) (h : U.May r) (w : World) : Calls Tryd.prog 97 #[.int .i32 r] w fun e w' => e = .returned (.bool true) ∧ w = w' := (may_any r w).mono fun _ _ ⟨h1, h2⟩ => ⟨by rw [h1]; exact ret_bool (by simp [h]), h2⟩
theorem may_no (r : Int) (h : ¬ U.May r) (w : World) : Calls Tryd.prog 97 #[.int .i32 r] w fun e w' => e = .returned (.bool false) ∧ w = w' := (may_any r w).mono fun _ _ ⟨h1, h2⟩ => ⟨by rw [h1]; exact ret_bool (by simp [h]), h2⟩
theorem encR_len1 {r : Int} (h0 : 0 ≤ r) (h1 : r ≤ 127) : (U.encR r).length = 1 := by rw [U.encR1 h0 h1]; rfl
theorem encR_len2 {r : Int} (h0 : 128 ≤ r) (h1 : r ≤ 2047) : (U.encR r).length = 2 := by rw [U.encR2 h0 h1]; rfl
theorem encR_len3 {r : Int} (h : (2048 ≤ r ∧ r < 55296) ∨ (57343 < r ∧ r ≤ 65535)) : (U.encR r).length = 3 := by rw [U.encR3 h]; rfl
theorem encR_len4 {r : Int} (h0 : 65536 ≤ r) (h1 : r ≤ 1114111) : (U.encR r).length = 4 := by rw [U.encR4 h0 h1]; rfl
theorem encR_lenb {r : Int} (h : ¬ U.May r) : (U.encR r).length = 3 := by rw [U.encR_bad h]; rfl
theorem ret_i64 {a b : Int} (h : a = b) : Ending.returned (.int .i64 a) = Ending.returned (.int .i64 b) := by rw [h]
set_option maxHeartbeats 400000 in
theorem width_any (r : Int) (w : World) : Calls Tryd.prog 98 #[.int .i32 r] w fun e w' => e = .returned (.int .i64 (U.encR r).length) ∧ w = w' := by
  by_cases hm : U.May r
  · have hr : (0 ≤ r ∧ r < 55296) ∨ (57343 < r ∧ r ≤ 1114111) := hm
    have HM := Lib.hid hm
    clear hm
    by_cases h1 : r < 128
    · have HL := Lib.hid (encR_len1 (r := r) (by omega) (by omega))
      clear hr
      go_enter Tryd.func98, Tryd.ntmps98
      go_wp2_with (go_at_call 97; refine (may_yes r HM.out _).mono ?_; rintro e w' ⟨rfl, rfl⟩)
      go_ret
      exact ⟨ret_i64 (by rw [HL.out]; rfl), rfl⟩
    · by_cases h2 : r < 2048
      · have HL := Lib.hid (encR_len2 (r := r) (by omega) (by omega))
        clear hr
        go_enter Tryd.func98, Tryd.ntmps98
        go_wp2_with (go_at_call 97; refine (may_yes r HM.out _).mono ?_; rintro e w' ⟨rfl, rfl⟩)
        go_ret
        exact ⟨ret_i64 (by rw [HL.out]; rfl), rfl⟩
      · by_cases h3 : r < 65536
        · have HL := Lib.hid (encR_len3 (r := r) (by omega))
          clear hr
          go_enter Tryd.func98, Tryd.ntmps98
          go_wp2_with (go_at_call 97; refine (may_yes r HM.out _).mono ?_; rintro e w' ⟨rfl, rfl⟩)
          go_ret
          exact ⟨ret_i64 (by rw [HL.out]; rfl), rfl⟩
        · have HL := Lib.hid (encR_len4 (r := r) (by omega) (by omega))
          clear hr
          go_enter Tryd.func98, Tryd.ntmps98
          go_wp2_with (go_at_call 97; refine (may_yes r HM.out _).mono ?_; rintro e w' ⟨rfl, rfl⟩)
          go_ret
          exact ⟨ret_i64 (by rw [HL.out]; rfl), rfl⟩
  · have HL := Lib.hid (encR_lenb hm)
    have HM := Lib.hid hm
    clear hm
    go_enter Tryd.func98, Tryd.ntmps98
    go_wp2_with (go_at_call 97; refine (may_no r HM.out _).mono ?_; rintro e w' ⟨rfl, rfl⟩)
    go_ret
    exact ⟨ret_i64 (by rw [HL.out]; rfl), rfl⟩
theorem and63 (r : Nat) (h : r ≤ 2147483647) : bits BinOp.and IntKind.i32 (r : Int) 63 = ((r % 64 : Nat) : Int) := by
  have e : (63 : Int) = ((63 : Nat) : Int) := rfl
  have h1 : (BitVec.ofInt 32 (r : Int)).toNat = r := by rw [BitVec.ofInt_natCast, BitVec.toNat_ofNat]; exact Nat.mod_eq_of_lt (by omega)
  have h3 : (BitVec.ofInt 32 ((63 : Nat) : Int)).toNat = 63 := by decide
  rw [e]
  show IntKind.i32.wrap ((BitVec.ofInt 32 (r : Int) &&& BitVec.ofInt 32 ((63 : Nat) : Int)).toNat : Int) = _
  rw [BitVec.toNat_and, h1, h3, nat_mask6]
  have : IntKind.i32.wrap ((r % 64 : Nat) : Int) = ((r % 64 : Nat) : Int) := by
    rw [IntKind.wrap_i32]; omega
  exact this
theorem or128 (x : Nat) (h : x < 64) : bits BinOp.or IntKind.u8 128 (x : Int) = ((128 + x : Nat) : Int) := by
  rw [show (128 : Int) = ((128 : Nat) : Int) from rfl, u8_or_nat _ _ (by omega) (by omega), nat_join 6 128 x (by omega) (by omega)]
theorem further_val (r : Int) (h0 : 0 ≤ r) (h1 : r ≤ 1114111) : bits BinOp.or IntKind.u8 128 (bits BinOp.and IntKind.i32 r 63 % 256) = (((128 + r % 64).toNat.toUInt8).toNat : Int) := by
  obtain ⟨n, rfl⟩ := Int.eq_ofNat_of_zero_le h0
  rw [and63 n (by omega), show (((n % 64 : Nat) : Int) % 256) = ((n % 64 : Nat) : Int) by omega, or128 _ (by omega), U.u8_nat (by omega)]
  omega
set_option maxHeartbeats 400000 in
theorem further_any (r : Int) (h0 : 0 ≤ r) (h1 : r ≤ 1114111) (w : World) : Calls Tryd.prog 99 #[.int .i32 r] w fun e w' => e = .returned (.int .u8 ((128 + r % 64).toNat.toUInt8).toNat) ∧ w = w' := by
  have HV := Lib.hid (further_val r h0 h1)
  go_enter Tryd.func99, Tryd.ntmps99
  go_wp2
  go_ret
  exact ⟨ret_int HV.out, rfl⟩
theorem writeB (B b : Nat) (l : List UInt8) (c : UInt8) (n : Int) (hn : n = c.toNat) (w : World) (h : Bld B b l w) (hlen : l.length + 1 ≤ 140737488355328) (hBw : B ≤ w.heap.size) :
    Calls Tryd.prog 45 #[.pointer (some ⟨b, 0, none⟩), .int .u8 n] w fun e w' => e = .returned .nilIface ∧ (Bld B b (l ++ [c]) w' ∧ Below B w w' ∧ Lib.OthersKept 5 (some b) w w') := writeByte_int B b l c n hn w h hlen hBw
theorem or_lead (base i x : Nat) (hb : base % 2 ^ i = 0) (hbb : base < 256) (hx : x < 2 ^ i) (hs : base + x < 256) : bits BinOp.or IntKind.u8 (base : Int) (x : Int) = ((base + x : Nat) : Int) := by
  rw [u8_or_nat _ _ hbb (by omega), nat_join i base x hb hx]
theorem width_is (r : Int) (n : Nat) (h : (U.encR r).length = n) (w : World) : Calls Tryd.prog 98 #[.int .i32 r] w fun e w' => e = .returned (.int .i64 n) ∧ w = w' := by
  rw [← h]; exact width_any r w
end Go.Proofs.YtikdncmgppckfaaDoor
