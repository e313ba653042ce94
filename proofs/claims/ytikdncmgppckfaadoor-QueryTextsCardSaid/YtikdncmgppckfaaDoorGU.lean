import Derived.Test.YtikdncmgppckfaaDoorUB
import Derived.BigQuiet
import Derived.Deep.QuietTactic
import Derived.Test.YtikdncmgppckfaaDoorSeqBox
import Derived.Maps.AppendAt
namespace Go.Proofs.YtikdncmgppckfaaDoor
open Go.RowKit
theorem i32b (r : Int) (h : (Lit.int .i32 r).wf = true) : -2147483648 ≤ r ∧ r ≤ 2147483647 := by simpa [Lit.wf, IntKind.min, IntKind.max, IntKind.signed, IntKind.bits] using h
set_option maxHeartbeats 400000 in
theorem may_any (r : Int) (w : World) : Calls Tryd.prog 97 #[.int .i32 r] w fun e w' => e = .returned (.bool (decide (U.May r))) ∧ w = w' := by
  have H : Hid ((U.May r → decide (U.May r) = true) ∧ (¬ U.May r → decide (U.May r) = false)) := Lib.hid ⟨fun h => by simp [h], fun h => by simp [h]⟩
  by_cases h0 : 0 ≤ r
  · by_cases h1 : r ≤ 1114111
    · by_cases h2 : r < 55296
      · go_enter Tryd.func97, Tryd.ntmps97
        go_wp2
        go_ret
        exact ⟨ret_bool (by rw [H.out.1 (by unfold U.May; omega)]), rfl⟩
      · by_cases h3 : 57343 < r
        · go_enter Tryd.func97, Tryd.ntmps97
          go_wp2
          go_ret
          exact ⟨ret_bool (by rw [H.out.1 (by unfold U.May; omega)]), rfl⟩
        · go_enter Tryd.func97, Tryd.ntmps97
          go_wp2
          go_ret
          exact ⟨ret_bool (by rw [H.out.2 (by unfold U.May; omega)]), rfl⟩
    · go_enter Tryd.func97, Tryd.ntmps97
      go_wp2
      go_ret
      exact ⟨ret_bool (by rw [H.out.2 (by unfold U.May; omega)]), rfl⟩
  · go_enter Tryd.func97, Tryd.ntmps97
    go_wp2
    go_ret
    exact ⟨ret_bool (by rw [H.out.2 (by unfold U.May; omega)]), rfl⟩
theorem may_yes (r : Int) (h : U.May r) (w : World) : Calls Tryd.prog 97 #[.int .i32 r] w fun e w' => e = .returned (.bool true) ∧ w = w' := (may_any r w).mono fun _ _ ⟨h1, h2⟩ => ⟨by rw [h1]; exact ret_bool (by simp [h]), h2⟩
theorem may_no (r : Int) (h : ¬ U.May r) (w : World) : Calls Tryd.prog 97 #[.int .i32 r] w fun e w' => e = .returned (.bool false) ∧ w = w' := (may_any r w).mono fun _ _ ⟨h1, h2⟩ => ⟨by rw [h1]; exact ret_bool (by simp [h]), h2⟩
theorem encR_len1 {r : Int} (h0 : 0 ≤ r) (h1 : r ≤ 127) : (U.encR r).length = 1 := by rw [U.encR1 h0 h1]; rfl
theorem encR_len2 {r : Int} (h0 : 128 ≤ r) (h1 : r ≤ 2047) : (U.encR r).length = 2 := by rw [U.encR2 h0 h1]; rfl
theorem encR_len3 {r : Int} (h : (2048 ≤ r ∧ r < 55296) ∨ (57343 < r ∧ r ≤ 65535)) : (U.encR r).length = 3 := by rw [U.encR3 h]; rfl
theorem encR_len4 {r : Int} (h0 : 65536 ≤ r) (h1 : r ≤ 1114111) : (U.encR r).length = 4 := by rw [U.encR4 h0 h1]; rfl
theorem encR_lenb {r : Int} (h : ¬ U.May r) : (U.encR r).length = 3 := by rw [U.encR_bad h]; rfl
theorem ret_i64 {a b : Int} (h : a = b) : Ending.returned (.int .i64 a) = Ending.returned (.int .i64 b) := by rw [h]
set_option maxHeartbeats 400000 in
theorem width_any (r : Int) (w : World) : Calls Tryd.prog 98 #[.int .i32 r] w fun e w' => e = .returned (.int .i64 (U.encR r).length) ∧ w = w' := by
  by_cases hm : U.May r
  · have hr : (0 ≤ r ∧ r < 55296) ∨ (57343 < r ∧ r ≤ 1114111) := hm
    have HM := Lib.hid hm
    clear hm
    by_cases h1 : r < 128
    · have HL := Lib.hid (encR_len1 (r := r) (by omega) (by omega))
      clear hr
      go_enter Tryd.func98, Tryd.ntmps98
      go_wp2_with (go_at_call 97; refine (may_yes r HM.out _).mono ?_; rintro e w' ⟨rfl, rfl⟩)
      go_ret
      exact ⟨ret_i64 (by rw [HL.out]; rfl), rfl⟩
    · by_cases h2 : r < 2048
      · have HL := Lib.hid (encR_len2 (r := r) (by omega) (by omega))
        clear hr
        go_enter Tryd.func98, Tryd.ntmps98
        go_wp2_with (go_at_call 97; refine (may_yes r HM.out _).mono ?_; rintro e w' ⟨rfl, rfl⟩)
        go_ret
        exact ⟨ret_i64 (by rw [HL.out]; rfl), rfl⟩
      · by_cases h3 : r < 65536
        · have HL := Lib.hid (encR_len3 (r := r) (by omega))
          clear hr
          go_enter Tryd.func98, Tryd.ntmps98
          go_wp2_with (go_at_call 97; refine (may_yes r HM.out _).mono ?_; rintro e w' ⟨rfl, rfl⟩)
          go_ret
          exact ⟨ret_i64 (by rw [HL.out]; rfl), rfl⟩
        · have HL := Lib.hid (encR_len4 (r := r) (by omega) (by omega))
          clear hr
          go_enter Tryd.func98, Tryd.ntmps98
          go_wp2_with (go_at_call 97; refine (may_yes r HM.out _).mono ?_; rintro e w' ⟨rfl, rfl⟩)
          go_ret
          exact ⟨ret_i64 (by rw [HL.out]; rfl), rfl⟩
  · have HL := Lib.hid (encR_lenb hm)
    have HM := Lib.hid hm
    clear hm
    go_enter Tryd.func98, Tryd.ntmps98
    go_wp2_with (go_at_call 97; refine (may_no r HM.out _).mono ?_; rintro e w' ⟨rfl, rfl⟩)
    go_ret
    exact ⟨ret_i64 (by rw [HL.out]; rfl), rfl⟩
theorem and63 (r : Nat) (h : r ≤ 2147483647) : bits BinOp.and IntKind.i32 (r : Int) 63 = ((r % 64 : Nat) : Int) := by
  have e : (63 : Int) = ((63 : Nat) : Int) := rfl
  have h1 : (BitVec.ofInt 32 (r : Int)).toNat = r := by rw [BitVec.ofInt_natCast, BitVec.toNat_ofNat]; exact Nat.mod_eq_of_lt (by omega)
  have h3 : (BitVec.ofInt 32 ((63 : Nat) : Int)).toNat = 63 := by decide
  rw [e]
  show IntKind.i32.wrap ((BitVec.ofInt 32 (r : Int) &&& BitVec.ofInt 32 ((63 : Nat) : Int)).toNat : Int) = _
  rw [BitVec.toNat_and, h1, h3, nat_mask6]
  have : IntKind.i32.wrap ((r % 64 : Nat) : Int) = ((r % 64 : Nat) : Int) := by
    rw [IntKind.wrap_i32]; omega
  exact this
theorem or128 (x : Nat) (h : x < 64) : bits BinOp.or IntKind.u8 128 (x : Int) = ((128 + x : Nat) : Int) := by
  rw [show (128 : Int) = ((128 : Nat) : Int) from rfl, u8_or_nat _ _ (by omega) (by omega), nat_join 6 128 x (by omega) (by omega)]
theorem further_val (r : Int) (h0 : 0 ≤ r) (h1 : r ≤ 1114111) : bits BinOp.or IntKind.u8 128 (bits BinOp.and IntKind.i32 r 63 % 256) = (((128 + r % 64).toNat.toUInt8).toNat : Int) := by
  obtain ⟨n, rfl⟩ := Int.eq_ofNat_of_zero_le h0
  rw [and63 n (by omega), show (((n % 64 : Nat) : Int) % 256) = ((n % 64 : Nat) : Int) by omega, or128 _ (by omega), U.u8_nat (by omega)]
  omega
set_option maxHeartbeats 400000 in
theorem further_any (r : Int) (h0 : 0 ≤ r) (h1 : r ≤ 1114111) (w : World) : Calls Tryd.prog 99 #[.int .i32 r] w fun e w' => e = .returned (.int .u8 ((128 + r % 64).toNat.toUInt8).toNat) ∧ w = w' := by
  have HV := Lib.hid (further_val r h0 h1)
  go_enter Tryd.func99, Tryd.ntmps99
  go_wp2
  go_ret
  exact ⟨ret_int HV.out, rfl⟩
theorem writeB (B b : Nat) (l : List UInt8) (c : UInt8) (n : Int) (hn : n = c.toNat) (w : World) (h : Bld B b l w) (hlen : l.length + 1 ≤ 140737488355328) (hBw : B ≤ w.heap.size) :
    Calls Tryd.prog 45 #[.pointer (some ⟨b, 0, none⟩), .int .u8 n] w fun e w' => e = .returned .nilIface ∧ (Bld B b (l ++ [c]) w' ∧ Below B w w' ∧ Lib.OthersKept 5 (some b) w w') := writeByte_int B b l c n hn w h hlen hBw
theorem or_lead (base i x : Nat) (hb : base % 2 ^ i = 0) (hbb : base < 256) (hx : x < 2 ^ i) (hs : base + x < 256) : bits BinOp.or IntKind.u8 (base : Int) (x : Int) = ((base + x : Nat) : Int) := by
  rw [u8_or_nat _ _ hbb (by omega), nat_join i base x hb hx]
theorem width_is (r : Int) (n : Nat) (h : (U.encR r).length = n) (w : World) : Calls Tryd.prog 98 #[.int .i32 r] w fun e w' => e = .returned (.int .i64 n) ∧ w = w' := by
  rw [← h]; exact width_any r w
end Go.Proofs.YtikdncmgppckfaaDoor
namespace Go.Proofs.YtikdncmgppckfaaDoor
open Go.RowKit
set_option maxHeartbeats 400000 in
theorem further_is (r : Int) (h0 : 0 ≤ r) (h1 : r ≤ 1114111) (w : World) : Calls Tryd.prog 99 #[.int .i32 r] w fun e w' => e = .returned (.int .u8 (128 + r % 64)) ∧ w = w' :=
  (further_any r h0 h1 w).mono fun _ _ ⟨h1, h2⟩ => ⟨by rw [h1]; exact ret_int (by rw [U.u8_nat (by omega)]; omega), h2⟩
set_option maxHeartbeats 4000000 in
theorem put_1 (B b : Nat) (l : List UInt8) (r : Int) (h1 : 0 ≤ r) (h2 : r ≤ 127) (w : World) (h : Bld B b l w) (hlen : l.length + 4 ≤ 140737488355328) (hBw : B ≤ w.heap.size) :
    Calls Tryd.prog 76 #[.pointer (some ⟨b, 0, none⟩), .int .i32 r] w fun e w' => e = .returned (.tuple #[]) ∧ (Bld B b (l ++ U.encR r) w' ∧ Below B w w' ∧ Lib.OthersKept 5 (some b) w w') := by
  have HM := Lib.hid (show U.May r by unfold U.May; omega)
  have HL := Lib.hid (encR_len1 (r := r) h1 h2)
  have HE := Lib.hid (U.encR1 (r := r) h1 h2)
  go_enter Tryd.func76, Tryd.ntmps76
  go_wp2_with fail
  refine (may_yes r HM.out _).mono ?_
  rintro e w' ⟨rfl, rfl⟩
  go_wp2_with fail
  refine (width_is r 1 HL.out _).mono ?_
  rintro e w' ⟨rfl, rfl⟩
  go_wp2_with fail
  refine (writeB B b l (r).toNat.toUInt8 (r) (by rw [U.u8_nat (by omega)]; omega) _ h (by omega) (by omega)).mono ?_
  rintro e w1 ⟨rfl, hb1, hl1, ho1⟩
  have q1 := hl1.size
  go_wp2
  go_end0
  refine ⟨rfl, ?_, hl1, ho1⟩
  rw [HE.out]
  simpa using hb1
set_option maxHeartbeats 4000000 in
theorem put_2 (B b : Nat) (l : List UInt8) (r : Int) (h1 : 128 ≤ r) (h2 : r ≤ 2047) (w : World) (h : Bld B b l w) (hlen : l.length + 4 ≤ 140737488355328) (hBw : B ≤ w.heap.size) :
    Calls Tryd.prog 76 #[.pointer (some ⟨b, 0, none⟩), .int .i32 r] w fun e w' => e = .returned (.tuple #[]) ∧ (Bld B b (l ++ U.encR r) w' ∧ Below B w w' ∧ Lib.OthersKept 5 (some b) w w') := by
  have HM := Lib.hid (show U.May r by unfold U.May; omega)
  have HL := Lib.hid (encR_len2 (r := r) h1 h2)
  have HE := Lib.hid (U.encR2 (r := r) h1 h2)
  go_enter Tryd.func76, Tryd.ntmps76
  go_wp2_with fail
  refine (may_yes r HM.out _).mono ?_
  rintro e w' ⟨rfl, rfl⟩
  go_wp2_with fail
  refine (width_is r 2 HL.out _).mono ?_
  rintro e w' ⟨rfl, rfl⟩
  go_wp2_with fail
  refine (writeB B b l (192 + r / 64).toNat.toUInt8 (192 + r / 64) (by rw [U.u8_nat (by omega)]; omega) _ h (by omega) (by omega)).mono ?_
  rintro e w1 ⟨rfl, hb1, hl1, ho1⟩
  have q1 := hl1.size
  go_wp2_with fail
  refine (further_is r (by omega) (by omega) _).mono ?_
  rintro e w' ⟨rfl, rfl⟩
  go_wp2_with fail
  refine (writeB B b _ (128 + r % 64).toNat.toUInt8 (128 + r % 64) (by rw [U.u8_nat (by omega)]; omega) _ hb1 (by simp; omega) (by omega)).mono ?_
  rintro e w2 ⟨rfl, hb2, hl2, ho2⟩
  have q2 := hl2.size
  go_wp2
  go_end0
  refine ⟨rfl, ?_, (hl1).trans hl2, (ho1).trans ho2⟩
  rw [HE.out]
  simpa using hb2
set_option maxHeartbeats 4000000 in
theorem put_3 (B b : Nat) (l : List UInt8) (r : Int) (hr : (2048 ≤ r ∧ r < 55296) ∨ (57343 < r ∧ r ≤ 65535)) (w : World) (h : Bld B b l w) (hlen : l.length + 4 ≤ 140737488355328) (hBw : B ≤ w.heap.size) :
    Calls Tryd.prog 76 #[.pointer (some ⟨b, 0, none⟩), .int .i32 r] w fun e w' => e = .returned (.tuple #[]) ∧ (Bld B b (l ++ U.encR r) w' ∧ Below B w w' ∧ Lib.OthersKept 5 (some b) w w') := by
  have HM := Lib.hid (show U.May r by unfold U.May; omega)
  have HL := Lib.hid (encR_len3 (r := r) hr)
  have HE := Lib.hid (U.encR3 (r := r) hr)
  have g1 : 2048 ≤ r := by omega
  have g2 : r ≤ 65535 := by omega
  clear hr
  go_enter Tryd.func76, Tryd.ntmps76
  go_wp2_with fail
  refine (may_yes r HM.out _).mono ?_
  rintro e w' ⟨rfl, rfl⟩
  go_wp2_with fail
  refine (width_is r 3 HL.out _).mono ?_
  rintro e w' ⟨rfl, rfl⟩
  go_wp2_with fail
  refine (writeB B b l (224 + r / 4096).toNat.toUInt8 (224 + r / 4096) (by rw [U.u8_nat (by omega)]; omega) _ h (by omega) (by omega)).mono ?_
  rintro e w1 ⟨rfl, hb1, hl1, ho1⟩
  have q1 := hl1.size
  go_wp2_with fail
  refine (further_is (r / 64) (by omega) (by omega) _).mono ?_
  rintro e w' ⟨rfl, rfl⟩
  go_wp2_with fail
  refine (writeB B b _ (128 + (r / 64) % 64).toNat.toUInt8 (128 + (r / 64) % 64) (by rw [U.u8_nat (by omega)]; omega) _ hb1 (by simp; omega) (by omega)).mono ?_
  rintro e w2 ⟨rfl, hb2, hl2, ho2⟩
  have q2 := hl2.size
  go_wp2_with fail
  refine (further_is r (by omega) (by omega) _).mono ?_
  rintro e w' ⟨rfl, rfl⟩
  go_wp2_with fail
  refine (writeB B b _ (128 + r % 64).toNat.toUInt8 (128 + r % 64) (by rw [U.u8_nat (by omega)]; omega) _ hb2 (by simp; omega) (by omega)).mono ?_
  rintro e w3 ⟨rfl, hb3, hl3, ho3⟩
  have q3 := hl3.size
  go_wp2
  go_end0
  refine ⟨rfl, ?_, ((hl1).trans hl2).trans hl3, ((ho1).trans ho2).trans ho3⟩
  rw [HE.out]
  simpa using hb3
set_option maxHeartbeats 4000000 in
theorem put_4 (B b : Nat) (l : List UInt8) (r : Int) (h1 : 65536 ≤ r) (h2 : r ≤ 1114111) (w : World) (h : Bld B b l w) (hlen : l.length + 4 ≤ 140737488355328) (hBw : B ≤ w.heap.size) :
    Calls Tryd.prog 76 #[.pointer (some ⟨b, 0, none⟩), .int .i32 r] w fun e w' => e = .returned (.tuple #[]) ∧ (Bld B b (l ++ U.encR r) w' ∧ Below B w w' ∧ Lib.OthersKept 5 (some b) w w') := by
  have HM := Lib.hid (show U.May r by unfold U.May; omega)
  have HL := Lib.hid (encR_len4 (r := r) h1 h2)
  have HE := Lib.hid (U.encR4 (r := r) h1 h2)
  go_enter Tryd.func76, Tryd.ntmps76
  go_wp2_with fail
  refine (may_yes r HM.out _).mono ?_
  rintro e w' ⟨rfl, rfl⟩
  go_wp2_with fail
  refine (width_is r 4 HL.out _).mono ?_
  rintro e w' ⟨rfl, rfl⟩
  go_wp2_with fail
  refine (writeB B b l (240 + r / 262144).toNat.toUInt8 (240 + r / 262144) (by rw [U.u8_nat (by omega)]; omega) _ h (by omega) (by omega)).mono ?_
  rintro e w1 ⟨rfl, hb1, hl1, ho1⟩
  have q1 := hl1.size
  go_wp2_with fail
  refine (further_is (r / 4096) (by omega) (by omega) _).mono ?_
  rintro e w' ⟨rfl, rfl⟩
  go_wp2_with fail
  refine (writeB B b _ (128 + (r / 4096) % 64).toNat.toUInt8 (128 + (r / 4096) % 64) (by rw [U.u8_nat (by omega)]; omega) _ hb1 (by simp; omega) (by omega)).mono ?_
  rintro e w2 ⟨rfl, hb2, hl2, ho2⟩
  have q2 := hl2.size
  go_wp2_with fail
  refine (further_is (r / 64) (by omega) (by omega) _).mono ?_
  rintro e w' ⟨rfl, rfl⟩
  go_wp2_with fail
  refine (writeB B b _ (128 + (r / 64) % 64).toNat.toUInt8 (128 + (r / 64) % 64) (by rw [U.u8_nat (by omega)]; omega) _ hb2 (by simp; omega) (by omega)).mono ?_
  rintro e w3 ⟨rfl, hb3, hl3, ho3⟩
  have q3 := hl3.size
  go_wp2_with fail
  refine (further_is r (by omega) (by omega) _).mono ?_
  rintro e w' ⟨rfl, rfl⟩
  go_wp2_with fail
  refine (writeB B b _ (128 + r % 64).toNat.toUInt8 (128 + r % 64) (by rw [U.u8_nat (by omega)]; omega) _ hb3 (by simp; omega) (by omega)).mono ?_
  rintro e w4 ⟨rfl, hb4, hl4, ho4⟩
  have q4 := hl4.size
  go_wp2
  go_end0
  refine ⟨rfl, ?_, (((hl1).trans hl2).trans hl3).trans hl4, (((ho1).trans ho2).trans ho3).trans ho4⟩
  rw [HE.out]
  simpa using hb4
set_option maxHeartbeats 4000000 in
theorem put_bad (B b : Nat) (l : List UInt8) (r : Int) (hm : ¬ U.May r) (w : World) (h : Bld B b l w) (hlen : l.length + 4 ≤ 140737488355328) (hBw : B ≤ w.heap.size) :
    Calls Tryd.prog 76 #[.pointer (some ⟨b, 0, none⟩), .int .i32 r] w fun e w' => e = .returned (.tuple #[]) ∧ (Bld B b (l ++ U.encR r) w' ∧ Below B w w' ∧ Lib.OthersKept 5 (some b) w w') := by
  have HM := Lib.hid hm
  have HE := Lib.hid (U.encR_bad hm)
  have HLH := Lib.hid (show (U.encR 65533).length = 3 from encR_len3 (by omega))
  clear hm
  go_enter Tryd.func76, Tryd.ntmps76
  go_wp2_with fail
  refine (may_no r HM.out _).mono ?_
  rintro e w' ⟨rfl, rfl⟩
  go_wp2_with fail
  refine (width_is 65533 3 HLH.out _).mono ?_
  rintro e w' ⟨rfl, rfl⟩
  go_wp2_with fail
  refine (writeB B b l 239 239 rfl _ h (by omega) (by omega)).mono ?_
  rintro e w1 ⟨rfl, hb1, hl1, ho1⟩
  have q1 := hl1.size
  go_wp2_with fail
  refine (further_is 1023 (by omega) (by omega) _).mono ?_
  rintro e w' ⟨rfl, rfl⟩
  go_wp2_with fail
  refine (writeB B b _ 191 191 rfl _ hb1 (by simp; omega) (by omega)).mono ?_
  rintro e w2 ⟨rfl, hb2, hl2, ho2⟩
  have q2 := hl2.size
  go_wp2_with fail
  refine (further_is 65533 (by omega) (by omega) _).mono ?_
  rintro e w' ⟨rfl, rfl⟩
  go_wp2_with fail
  refine (writeB B b _ 189 189 rfl _ hb2 (by simp; omega) (by omega)).mono ?_
  rintro e w3 ⟨rfl, hb3, hl3, ho3⟩
  go_wp2
  go_end0
  refine ⟨rfl, ?_, (hl1.trans hl2).trans hl3, (ho1.trans ho2).trans ho3⟩
  rw [HE.out]
  simpa using hb3
theorem put_any (B b : Nat) (l : List UInt8) (r : Int) (w : World) (h : Bld B b l w) (hlen : l.length + 4 ≤ 140737488355328) (hBw : B ≤ w.heap.size) :
    Calls Tryd.prog 76 #[.pointer (some ⟨b, 0, none⟩), .int .i32 r] w fun e w' => e = .returned (.tuple #[]) ∧ (Bld B b (l ++ U.encR r) w' ∧ Below B w w' ∧ Lib.OthersKept 5 (some b) w w') := by
  by_cases hm : U.May r
  · have hr : (0 ≤ r ∧ r < 55296) ∨ (57343 < r ∧ r ≤ 1114111) := hm
    by_cases h1 : r ≤ 127
    · exact put_1 B b l r (by omega) h1 w h hlen hBw
    · by_cases h2 : r ≤ 2047
      · exact put_2 B b l r (by omega) h2 w h hlen hBw
      · by_cases h3 : r ≤ 65535
        · exact put_3 B b l r (by omega) w h hlen hBw
        · exact put_4 B b l r (by omega) (by omega) w h hlen hBw
  · exact put_bad B b l r hm w h hlen hBw
end Go.Proofs.YtikdncmgppckfaaDoor
namespace Go.Proofs.YtikdncmgppckfaaDoor
open Go.RowKit
def wid (b : Nat) : Nat := if b < 128 then 1 else if b < 194 then 0 else if b < 224 then 2 else if b < 240 then 3 else if b < 245 then 4 else 0
set_option maxRecDepth 20000 in
set_option maxHeartbeats 1000000 in
theorem begun_any (b : Nat) (hb : b < 256) (w : World) : Calls Tryd.prog 83 #[.int .u8 b] w fun e w' => e = .returned (.int .i64 (wid b)) ∧ w = w' := by
  by_cases h1 : b < 128
  · have H := Lib.hid (show wid b = 1 by unfold wid; rw [if_pos h1])
    go_enter Tryd.func83, Tryd.ntmps83
    go_wp2
    go_ret
    exact ⟨ret_i64 (by rw [H.out]; rfl), rfl⟩
  · by_cases h2 : b < 194
    · have H := Lib.hid (show wid b = 0 by unfold wid; rw [if_neg h1, if_pos h2])
      go_enter Tryd.func83, Tryd.ntmps83
      go_wp2
      go_ret
      exact ⟨ret_i64 (by rw [H.out]; rfl), rfl⟩
    · by_cases h3 : b < 224
      · have H := Lib.hid (show wid b = 2 by unfold wid; rw [if_neg h1, if_neg h2, if_pos h3])
        go_enter Tryd.func83, Tryd.ntmps83
        go_wp2
        go_ret
        exact ⟨ret_i64 (by rw [H.out]; rfl), rfl⟩
      · by_cases h4 : b < 240
        · have H := Lib.hid (show wid b = 3 by unfold wid; rw [if_neg h1, if_neg h2, if_neg h3, if_pos h4])
          go_enter Tryd.func83, Tryd.ntmps83
          go_wp2
          go_ret
          exact ⟨ret_i64 (by rw [H.out]; rfl), rfl⟩
        · by_cases h5 : b < 245
          · have H := Lib.hid (show wid b = 4 by unfold wid; rw [if_neg h1, if_neg h2, if_neg h3, if_neg h4, if_pos h5])
            go_enter Tryd.func83, Tryd.ntmps83
            go_wp2
            go_ret
            exact ⟨ret_i64 (by rw [H.out]; rfl), rfl⟩
          · have H := Lib.hid (show wid b = 0 by unfold wid; rw [if_neg h1, if_neg h2, if_neg h3, if_neg h4, if_neg h5])
            go_enter Tryd.func83, Tryd.ntmps83
            go_wp2
            go_ret
            exact ⟨ret_i64 (by rw [H.out]; rfl), rfl⟩
def slo (b : Nat) : Nat := if b = 224 then 160 else if b = 240 then 144 else 128
def shi (b : Nat) : Nat := if b = 237 then 159 else if b = 244 then 143 else 191
theorem ret_bb {a b c d : Int} (h : a = b) (h2 : c = d) : Ending.returned (.tuple #[.int .u8 a, .int .u8 c]) = Ending.returned (.tuple #[.int .u8 b, .int .u8 d]) := by rw [h, h2]
set_option maxHeartbeats 400000 in
theorem second_any (b : Nat) (hb : b < 256) (w : World) : Calls Tryd.prog 84 #[.int .u8 b] w fun e w' => e = .returned (.tuple #[.int .u8 (slo b), .int .u8 (shi b)]) ∧ w = w' := by
  by_cases h1 : b = 224
  · subst h1
    go_enter Tryd.func84, Tryd.ntmps84
    go_wp2
    go_ret2
    exact ⟨rfl, rfl⟩
  · by_cases h2 : b = 237
    · subst h2
      go_enter Tryd.func84, Tryd.ntmps84
      go_wp2
      go_ret2
      exact ⟨rfl, rfl⟩
    · by_cases h3 : b = 240
      · subst h3
        go_enter Tryd.func84, Tryd.ntmps84
        go_wp2
        go_ret2
        exact ⟨rfl, rfl⟩
      · by_cases h4 : b = 244
        · subst h4
          go_enter Tryd.func84, Tryd.ntmps84
          go_wp2
          go_ret2
          exact ⟨rfl, rfl⟩
        · have H1 := Lib.hid (show slo b = 128 by unfold slo; rw [if_neg h1, if_neg h3])
          have H2 := Lib.hid (show shi b = 191 by unfold shi; rw [if_neg h2, if_neg h4])
          go_enter Tryd.func84, Tryd.ntmps84
          go_wp2
          go_ret2
          exact ⟨ret_bb (by rw [H1.out]; rfl) (by rw [H2.out]; rfl), rfl⟩
theorem and_mask (b i m : Nat) (hm : m = 2 ^ i - 1) (hi : i ≤ 30) (hb : b < 256) : bits BinOp.and IntKind.i32 (b : Int) (m : Int) = ((b % 2 ^ i : Nat) : Int) := by
  have h2 : 2 ^ i ≤ 2 ^ 30 := Nat.pow_le_pow_right (by omega) hi
  have h1 : (BitVec.ofInt 32 (b : Int)).toNat = b := by rw [BitVec.ofInt_natCast, BitVec.toNat_ofNat]; exact Nat.mod_eq_of_lt (by omega)
  have h3 : (BitVec.ofInt 32 (m : Int)).toNat = m := by rw [BitVec.ofInt_natCast, BitVec.toNat_ofNat]; exact Nat.mod_eq_of_lt (by omega)
  show IntKind.i32.wrap ((BitVec.ofInt 32 (b : Int) &&& BitVec.ofInt 32 (m : Int)).toNat : Int) = _
  rw [BitVec.toNat_and, h1, h3, hm, Nat.and_two_pow_sub_one_eq_mod]
  have : b % 2 ^ i ≤ b := Nat.mod_le _ _
  rw [IntKind.wrap_i32]; omega
theorem or_low (r x : Nat) (hr : r < 2 ^ 24) (hx : x < 64) : bits BinOp.or IntKind.i32 ((r : Int) * 64) (x : Int) = ((64 * r + x : Nat) : Int) := by
  have e : ((r : Int) * 64) = ((r * 64 : Nat) : Int) := by omega
  have h1 : (BitVec.ofInt 32 ((r * 64 : Nat) : Int)).toNat = r * 64 := by rw [BitVec.ofInt_natCast, BitVec.toNat_ofNat]; exact Nat.mod_eq_of_lt (by omega)
  have h3 : (BitVec.ofInt 32 (x : Int)).toNat = x := by rw [BitVec.ofInt_natCast, BitVec.toNat_ofNat]; exact Nat.mod_eq_of_lt (by omega)
  rw [e]
  show IntKind.i32.wrap ((BitVec.ofInt 32 ((r * 64 : Nat) : Int) ||| BitVec.ofInt 32 (x : Int)).toNat : Int) = _
  rw [BitVec.toNat_or, h1, h3, nat_join 6 (r * 64) x (by omega) (by omega), IntKind.wrap_i32]; omega
end Go.Proofs.YtikdncmgppckfaaDoor
namespace Go.Proofs.YtikdncmgppckfaaDoor
open Go.RowKit
theorem wid_1 {b : Nat} (h : b < 128) : wid b = 1 := by unfold wid; rw [if_pos h]
theorem wid_0 {b : Nat} (h : (128 ≤ b ∧ b < 194) ∨ 245 ≤ b) : wid b = 0 := by unfold wid; (repeat' split) <;> omega
theorem wid_2 {b : Nat} (h1 : 194 ≤ b) (h2 : b < 224) : wid b = 2 := by unfold wid; (repeat' split) <;> omega
theorem wid_3 {b : Nat} (h1 : 224 ≤ b) (h2 : b < 240) : wid b = 3 := by unfold wid; (repeat' split) <;> omega
theorem wid_4 {b : Nat} (h1 : 240 ≤ b) (h2 : b < 245) : wid b = 4 := by unfold wid; (repeat' split) <;> omega
theorem begun_is (b n : Nat) (hn : wid b = n) (hb : b < 256) (w : World) : Calls Tryd.prog 83 #[.int .u8 b] w fun e w' => e = .returned (.int .i64 n) ∧ w = w' := by
  rw [← hn]; exact begun_any b hb w
theorem second_is (b lo hi : Nat) (hl : slo b = lo) (hh : shi b = hi) (hb : b < 256) (w : World) : Calls Tryd.prog 84 #[.int .u8 b] w fun e w' => e = .returned (.tuple #[.int .u8 lo, .int .u8 hi]) ∧ w = w' := by
  rw [← hl, ← hh]; exact second_any b hb w
set_option maxRecDepth 20000 in
set_option maxHeartbeats 1000000 in
theorem first_1 (u : ByteArray) (h0 : 0 < u.size) (hb : u[0].toNat < 128) (w : World) :
    Calls Tryd.prog 64 #[.string u] w fun e w' => e = .returned (.tuple #[.int .i32 (u[0].toNat : Nat), .int .i64 1]) ∧ w = w' := by
  have hc := u[0].toNat_lt
  have HW := Lib.hid (wid_1 hb)
  go_enter Tryd.func64, Tryd.ntmps64
  go_wp2_with fail
  refine (begun_is u[0].toNat 1 HW.out hc _).mono ?_
  rintro e w' ⟨rfl, rfl⟩
  go_wp2
  go_ret2
  exact ⟨rfl, rfl⟩
set_option maxRecDepth 20000 in
set_option maxHeartbeats 1000000 in
theorem first_0 (u : ByteArray) (h0 : 0 < u.size) (hb : (128 ≤ u[0].toNat ∧ u[0].toNat < 194) ∨ 245 ≤ u[0].toNat) (w : World) :
    Calls Tryd.prog 64 #[.string u] w fun e w' => e = .returned (.tuple #[.int .i32 65533, .int .i64 1]) ∧ w = w' := by
  have hc := u[0].toNat_lt
  have HW := Lib.hid (wid_0 hb)
  clear hb
  go_enter Tryd.func64, Tryd.ntmps64
  go_wp2_with fail
  refine (begun_is u[0].toNat 0 HW.out hc _).mono ?_
  rintro e w' ⟨rfl, rfl⟩
  go_wp2
  go_ret2
  exact ⟨rfl, rfl⟩
theorem slo_b (b : Nat) : 128 ≤ slo b := by unfold slo; (repeat' split) <;> omega
theorem shi_b (b : Nat) : shi b ≤ 191 := by unfold shi; (repeat' split) <;> omega
theorem list_cons (u : ByteArray) (h : 0 < u.size) : u.data.toList = u[0] :: u.data.toList.drop 1 := by
  have := drop_cons u 0 h
  rw [List.drop_zero] at this
  exact this
theorem ret_ii {a b c d : Int} (h : a = b) (h2 : c = d) : Ending.returned (.tuple #[.int .i32 a, .int .i64 c]) = Ending.returned (.tuple #[.int .i32 b, .int .i64 d]) := by rw [h, h2]
theorem start_2 (u : ByteArray) (h0 : 0 < u.size) (h1 : 194 ≤ u[0].toNat) (h2 : u[0].toNat < 224) : U.fst1 u.data.toList = ((U.cont 1 (u[0].toNat % 32) (slo u[0].toNat) (shi u[0].toNat) (u.data.toList.drop 1)).1, (U.cont 1 (u[0].toNat % 32) (slo u[0].toNat) (shi u[0].toNat) (u.data.toList.drop 1)).2 + 1) := by
  have e := U.lead2 u[0].toNat h2 h1
  have es : slo u[0].toNat = 128 := by unfold slo; (repeat' split) <;> omega
  have eh : shi u[0].toNat = 191 := by unfold shi; (repeat' split) <;> omega
  rw [es, eh, show u[0].toNat % 32 = u[0].toNat - 192 by omega]
  conv => lhs; rw [list_cons u h0]
  exact U.fst1_of e
theorem start_3 (u : ByteArray) (h0 : 0 < u.size) (h1 : 224 ≤ u[0].toNat) (h2 : u[0].toNat < 240) : U.fst1 u.data.toList = ((U.cont 2 (u[0].toNat % 16) (slo u[0].toNat) (shi u[0].toNat) (u.data.toList.drop 1)).1, (U.cont 2 (u[0].toNat % 16) (slo u[0].toNat) (shi u[0].toNat) (u.data.toList.drop 1)).2 + 1) := by
  have e := U.lead3 u[0].toNat h2 h1
  have es : slo u[0].toNat = if u[0].toNat = 224 then 160 else 128 := by unfold slo; (repeat' split) <;> omega
  have eh : shi u[0].toNat = if u[0].toNat = 237 then 159 else 191 := by unfold shi; (repeat' split) <;> omega
  rw [es, eh, show u[0].toNat % 16 = u[0].toNat - 224 by omega]
  conv => lhs; rw [list_cons u h0]
  exact U.fst1_of e
theorem start_4 (u : ByteArray) (h0 : 0 < u.size) (h1 : 240 ≤ u[0].toNat) (h2 : u[0].toNat < 245) : U.fst1 u.data.toList = ((U.cont 3 (u[0].toNat % 8) (slo u[0].toNat) (shi u[0].toNat) (u.data.toList.drop 1)).1, (U.cont 3 (u[0].toNat % 8) (slo u[0].toNat) (shi u[0].toNat) (u.data.toList.drop 1)).2 + 1) := by
  have e := U.lead4 u[0].toNat h2 h1
  have es : slo u[0].toNat = if u[0].toNat = 240 then 144 else 128 := by unfold slo; (repeat' split) <;> omega
  have eh : shi u[0].toNat = if u[0].toNat = 244 then 143 else 191 := by unfold shi; (repeat' split) <;> omega
  rw [es, eh, show u[0].toNat % 8 = u[0].toNat - 240 by omega]
  conv => lhs; rw [list_cons u h0]
  exact U.fst1_of e
theorem pair_fst {p : Nat × Nat} {a b : Nat} (h : p = (a, b)) : p.1 = a := by rw [h]
theorem pair_snd {p : Nat × Nat} {a b : Nat} (h : p = (a, b)) : p.2 = b := by rw [h]
theorem stop_nil {l r lo hi k : Nat} {t : List UInt8} {p : Nat × Nat} (h : p = ((U.cont l r lo hi t).1, (U.cont l r lo hi t).2 + k)) (hl : 0 < l) (ht : t = []) : p = (65533, k) := by
  obtain ⟨n, rfl⟩ : ∃ n, l = n + 1 := ⟨l - 1, by omega⟩
  subst ht
  rw [U.cont_nil] at h
  rw [h]; dsimp only; rw [Nat.zero_add]; rfl
theorem stop_out {l r lo hi k : Nat} {c : UInt8} {t t' : List UInt8} {p : Nat × Nat} (h : p = ((U.cont l r lo hi t).1, (U.cont l r lo hi t).2 + k)) (hl : 0 < l) (ht : t = c :: t') (hc : ¬ (lo ≤ c.toNat ∧ c.toNat ≤ hi)) : p = (65533, k) := by
  obtain ⟨n, rfl⟩ : ∃ n, l = n + 1 := ⟨l - 1, by omega⟩
  subst ht
  rw [U.cont_out hc] at h
  rw [h]; dsimp only; rw [Nat.zero_add]; rfl
theorem goes_on {l l' r r' lo hi k : Nat} {c : UInt8} {t t' : List UInt8} {p : Nat × Nat} (h : p = ((U.cont l r lo hi t).1, (U.cont l r lo hi t).2 + k)) (hl : l = l' + 1) (ht : t = c :: t') (hc : lo ≤ c.toNat ∧ c.toNat ≤ hi) (hr : r' = 64 * r + (c.toNat - 128)) : p = ((U.cont l' r' 128 191 t').1, (U.cont l' r' 128 191 t').2 + (k + 1)) := by
  rw [hl, ht, U.cont_in hc, ← hr] at h
  rw [h]
  dsimp only
  rw [Nat.add_assoc, Nat.add_comm 1 k]
theorem fin_all {l r lo hi k : Nat} {t : List UInt8} {p : Nat × Nat} (h : p = ((U.cont l r lo hi t).1, (U.cont l r lo hi t).2 + k)) (hl : l = 0) : p = (r, k) := by
  subst hl
  rw [U.cont_zero] at h
  rw [h]; simp
theorem or_cont (rr c : Nat) (hr : rr < 131072) (h1 : 128 ≤ c) (h2 : c ≤ 191) : bits BinOp.or IntKind.i32 ((rr : Int) * 64) (bits BinOp.and IntKind.u8 (c : Int) 63) = ((64 * rr + (c - 128) : Nat) : Int) := by
  have e : bits BinOp.and IntKind.u8 (c : Int) 63 = ((c % 64 : Nat) : Int) := by
    have h3 : (BitVec.ofInt 8 (c : Int)).toNat = c := by rw [BitVec.ofInt_natCast, BitVec.toNat_ofNat]; exact Nat.mod_eq_of_lt (by omega)
    show IntKind.u8.wrap ((BitVec.ofInt 8 (c : Int) &&& BitVec.ofInt 8 63).toNat : Int) = _
    rw [BitVec.toNat_and, h3, show (BitVec.ofInt 8 63).toNat = 63 by decide, nat_mask6, IntKind.wrap_u8]; omega
  have h24 : rr < 2 ^ 24 := Nat.lt_trans hr (by decide)
  rw [e, or_low rr (c % 64) h24 (by omega), show c % 64 = c - 128 by omega]
theorem U.lead_none (b : Nat) (h : (128 ≤ b ∧ b < 194) ∨ 245 ≤ b) : U.lead b = none := by
  unfold U.lead
  (repeat' split) <;> first | rfl | omega
set_option maxRecDepth 20000 in
set_option maxHeartbeats 2000000 in
theorem first_2 (u : ByteArray) (hu : u.size ≤ maxLen) (h0 : 0 < u.size) (hb1 : 194 ≤ u[0].toNat) (hb2 : u[0].toNat < 224) (w : World) :
    Calls Tryd.prog 64 #[.string u] w fun e w' => e = .returned (.tuple #[.int .i32 (U.fst1 u.data.toList).1, .int .i64 (U.fst1 u.data.toList).2]) ∧ ∃ m, w' = w.drewN m := by
  unfold maxLen at hu
  have hc := u[0].toNat_lt
  have HW := Lib.hid (wid_2 hb1 hb2)
  have HA := Lib.hid (and_mask u[0].toNat 5 31 rfl (by omega) (by omega))
  have HS := Lib.hid (start_2 u h0 hb1 hb2)
  go_enter Tryd.func64, Tryd.ntmps64
  go_wp2_with fail
  refine (begun_is u[0].toNat 2 HW.out hc _).mono ?_
  rintro e w' ⟨rfl, rfl⟩
  go_wp2_with fail
  go_quiet (fail)
  go_wp2_with fail
  refine (second_is u[0].toNat _ _ rfl rfl hc _).mono ?_
  rintro e w' ⟨rfl, rfl⟩
  go_wp2_with fail
  clear hb1 hb2
  go_loopw [5, 6, 7, 8] (fun r lo hi n wr => ∃ (k rr lo' hi' : Nat), 1 ≤ k ∧ k ≤ 2 ∧ k ≤ u.size ∧ r = .int .i32 rr ∧ lo = .int .u8 lo' ∧ hi = .int .u8 hi' ∧ n = .int .i64 k ∧ 128 ≤ lo' ∧ hi' ≤ 191 ∧ lo' ≤ 255 ∧ Hid (rr < 32 ∨ (2 ≤ k ∧ rr < 2048) ∨ (3 ≤ k ∧ rr < 131072) ∨ 4 ≤ k) ∧ Hid (U.fst1 u.data.toList = ((U.cont (2 - k) rr lo' hi' (u.data.toList.drop k)).1, (U.cont (2 - k) rr lo' hi' (u.data.toList.drop k)).2 + k)) ∧ ∃ m, wr = w.drewN m) (fun _ _ _ n _ => 2 - (intOf n).toNat)
  case atStart => 
    refine ⟨1, u[0].toNat % 32, slo u[0].toNat, shi u[0].toNat, by omega, by omega, by omega, ?_, rfl, rfl, rfl, slo_b _, shi_b _, ?_, Lib.hid (by omega), HS, ?_⟩
    · exact congrArg _ HA.out
    · unfold slo; (repeat' split) <;> omega
    · exact ⟨_, rfl⟩
  case round =>
    obtain ⟨k, rr, lo, hi, hk1, hkW, hku, rfl, rfl, rfl, rfl, hl, hh, hl2, HB, HF, m, rfl⟩ := hrel
    by_cases hkl : k < 2
    · have hrr : rr < 131072 := by have := HB.out; omega
      by_cases he : k = u.size
      · have HZ := Lib.hid (stop_nil HF.out (by omega) (List.drop_of_length_le (by simp; omega)))
        have he2 : (k : Int) = (u.size : Int) := by omega
        go_wp2
        go_ret2
        exact ⟨ret_ii (by rw [pair_fst HZ.out]; rfl) (by rw [pair_snd HZ.out]), _, rfl⟩
      · have hks : k < u.size := by omega
        have be : ((k : Int) == (u.size : Int)) = false := by rw [beq_eq_false_iff_ne]; omega
        have HD := Lib.hid (drop_cons u k hks)
        have hcc := u[k].toNat_lt
        by_cases hin : lo ≤ u[k].toNat ∧ u[k].toNat ≤ hi
        · have HV := Lib.hid (or_cont rr u[k].toNat hrr (by omega) (by omega))
          have HN := Lib.hid (goes_on (l' := 2 - (k + 1)) HF.out (by omega) HD.out hin rfl)
          have bl : decide ((u[k].toNat : Int) < (lo : Int)) = false := decide_eq_false (by omega)
          have bh : decide ((hi : Int) < (u[k].toNat : Int)) = false := decide_eq_false (by omega)
          obtain ⟨hin1, hin2⟩ := hin
          go_wp2_with fail
          refine ⟨⟨k + 1, _, 128, 191, by omega, by omega, by omega, ?_, rfl, rfl, by go_num, by omega, by omega, by omega, ?_, HN, m, rfl⟩, by simp [intOf]; omega⟩
          · exact congrArg _ (by omega)
          · exact Lib.hid (by have := HB.out; omega)
        · have HZ := Lib.hid (stop_out HF.out (by omega) HD.out hin)
          by_cases hlo : u[k].toNat < lo
          · clear hin
            have bl : decide ((u[k].toNat : Int) < (lo : Int)) = true := decide_eq_true (by omega)
            go_wp2
            go_ret2
            exact ⟨ret_ii (by rw [pair_fst HZ.out]; rfl) (by rw [pair_snd HZ.out]), _, rfl⟩
          · have hhi : hi < u[k].toNat := by omega
            clear hin
            have bl : decide ((u[k].toNat : Int) < (lo : Int)) = false := decide_eq_false (by omega)
            have bh : decide ((hi : Int) < (u[k].toNat : Int)) = true := decide_eq_true (by omega)
            go_wp2
            go_ret2
            exact ⟨ret_ii (by rw [pair_fst HZ.out]; rfl) (by rw [pair_snd HZ.out]), _, rfl⟩
    · have HZ := Lib.hid (fin_all HF.out (by omega))
      go_wp2
      go_ret2
      exact ⟨ret_ii (by rw [pair_fst HZ.out]) (by rw [pair_snd HZ.out]; omega), _, rfl⟩
set_option maxRecDepth 20000 in
set_option maxHeartbeats 2000000 in
theorem first_3 (u : ByteArray) (hu : u.size ≤ maxLen) (h0 : 0 < u.size) (hb1 : 224 ≤ u[0].toNat) (hb2 : u[0].toNat < 240) (w : World) :
    Calls Tryd.prog 64 #[.string u] w fun e w' => e = .returned (.tuple #[.int .i32 (U.fst1 u.data.toList).1, .int .i64 (U.fst1 u.data.toList).2]) ∧ ∃ m, w' = w.drewN m := by
  unfold maxLen at hu
  have hc := u[0].toNat_lt
  have HW := Lib.hid (wid_3 hb1 hb2)
  have HA := Lib.hid (and_mask u[0].toNat 4 15 rfl (by omega) (by omega))
  have HS := Lib.hid (start_3 u h0 hb1 hb2)
  go_enter Tryd.func64, Tryd.ntmps64
  go_wp2_with fail
  refine (begun_is u[0].toNat 3 HW.out hc _).mono ?_
  rintro e w' ⟨rfl, rfl⟩
  go_wp2_with fail
  go_quiet (fail)
  go_wp2_with fail
  refine (second_is u[0].toNat _ _ rfl rfl hc _).mono ?_
  rintro e w' ⟨rfl, rfl⟩
  go_wp2_with fail
  clear hb1 hb2
  go_loopw [5, 6, 7, 8] (fun r lo hi n wr => ∃ (k rr lo' hi' : Nat), 1 ≤ k ∧ k ≤ 3 ∧ k ≤ u.size ∧ r = .int .i32 rr ∧ lo = .int .u8 lo' ∧ hi = .int .u8 hi' ∧ n = .int .i64 k ∧ 128 ≤ lo' ∧ hi' ≤ 191 ∧ lo' ≤ 255 ∧ Hid (rr < 32 ∨ (2 ≤ k ∧ rr < 2048) ∨ (3 ≤ k ∧ rr < 131072) ∨ 4 ≤ k) ∧ Hid (U.fst1 u.data.toList = ((U.cont (3 - k) rr lo' hi' (u.data.toList.drop k)).1, (U.cont (3 - k) rr lo' hi' (u.data.toList.drop k)).2 + k)) ∧ ∃ m, wr = w.drewN m) (fun _ _ _ n _ => 3 - (intOf n).toNat)
  case atStart => 
    refine ⟨1, u[0].toNat % 16, slo u[0].toNat, shi u[0].toNat, by omega, by omega, by omega, ?_, rfl, rfl, rfl, slo_b _, shi_b _, ?_, Lib.hid (by omega), HS, ?_⟩
    · exact congrArg _ HA.out
    · unfold slo; (repeat' split) <;> omega
    · exact ⟨_, rfl⟩
  case round =>
    obtain ⟨k, rr, lo, hi, hk1, hkW, hku, rfl, rfl, rfl, rfl, hl, hh, hl2, HB, HF, m, rfl⟩ := hrel
    by_cases hkl : k < 3
    · have hrr : rr < 131072 := by have := HB.out; omega
      by_cases he : k = u.size
      · have HZ := Lib.hid (stop_nil HF.out (by omega) (List.drop_of_length_le (by simp; omega)))
        have he2 : (k : Int) = (u.size : Int) := by omega
        go_wp2
        go_ret2
        exact ⟨ret_ii (by rw [pair_fst HZ.out]; rfl) (by rw [pair_snd HZ.out]), _, rfl⟩
      · have hks : k < u.size := by omega
        have be : ((k : Int) == (u.size : Int)) = false := by rw [beq_eq_false_iff_ne]; omega
        have HD := Lib.hid (drop_cons u k hks)
        have hcc := u[k].toNat_lt
        by_cases hin : lo ≤ u[k].toNat ∧ u[k].toNat ≤ hi
        · have HV := Lib.hid (or_cont rr u[k].toNat hrr (by omega) (by omega))
          have HN := Lib.hid (goes_on (l' := 3 - (k + 1)) HF.out (by omega) HD.out hin rfl)
          have bl : decide ((u[k].toNat : Int) < (lo : Int)) = false := decide_eq_false (by omega)
          have bh : decide ((hi : Int) < (u[k].toNat : Int)) = false := decide_eq_false (by omega)
          obtain ⟨hin1, hin2⟩ := hin
          go_wp2_with fail
          refine ⟨⟨k + 1, _, 128, 191, by omega, by omega, by omega, ?_, rfl, rfl, by go_num, by omega, by omega, by omega, ?_, HN, m, rfl⟩, by simp [intOf]; omega⟩
          · exact congrArg _ (by omega)
          · exact Lib.hid (by have := HB.out; omega)
        · have HZ := Lib.hid (stop_out HF.out (by omega) HD.out hin)
          by_cases hlo : u[k].toNat < lo
          · clear hin
            have bl : decide ((u[k].toNat : Int) < (lo : Int)) = true := decide_eq_true (by omega)
            go_wp2
            go_ret2
            exact ⟨ret_ii (by rw [pair_fst HZ.out]; rfl) (by rw [pair_snd HZ.out]), _, rfl⟩
          · have hhi : hi < u[k].toNat := by omega
            clear hin
            have bl : decide ((u[k].toNat : Int) < (lo : Int)) = false := decide_eq_false (by omega)
            have bh : decide ((hi : Int) < (u[k].toNat : Int)) = true := decide_eq_true (by omega)
            go_wp2
            go_ret2
            exact ⟨ret_ii (by rw [pair_fst HZ.out]; rfl) (by rw [pair_snd HZ.out]), _, rfl⟩
    · have HZ := Lib.hid (fin_all HF.out (by omega))
      go_wp2
      go_ret2
      exact ⟨ret_ii (by rw [pair_fst HZ.out]) (by rw [pair_snd HZ.out]; omega), _, rfl⟩
set_option maxRecDepth 20000 in
set_option maxHeartbeats 2000000 in
theorem first_4 (u : ByteArray) (hu : u.size ≤ maxLen) (h0 : 0 < u.size) (hb1 : 240 ≤ u[0].toNat) (hb2 : u[0].toNat < 245) (w : World) :
    Calls Tryd.prog 64 #[.string u] w fun e w' => e = .returned (.tuple #[.int .i32 (U.fst1 u.data.toList).1, .int .i64 (U.fst1 u.data.toList).2]) ∧ ∃ m, w' = w.drewN m := by
  unfold maxLen at hu
  have hc := u[0].toNat_lt
  have HW := Lib.hid (wid_4 hb1 hb2)
  have HA := Lib.hid (and_mask u[0].toNat 3 7 rfl (by omega) (by omega))
  have HS := Lib.hid (start_4 u h0 hb1 hb2)
  go_enter Tryd.func64, Tryd.ntmps64
  go_wp2_with fail
  refine (begun_is u[0].toNat 4 HW.out hc _).mono ?_
  rintro e w' ⟨rfl, rfl⟩
  go_wp2_with fail
  go_quiet (fail)
  go_wp2_with fail
  refine (second_is u[0].toNat _ _ rfl rfl hc _).mono ?_
  rintro e w' ⟨rfl, rfl⟩
  go_wp2_with fail
  clear hb1 hb2
  go_loopw [5, 6, 7, 8] (fun r lo hi n wr => ∃ (k rr lo' hi' : Nat), 1 ≤ k ∧ k ≤ 4 ∧ k ≤ u.size ∧ r = .int .i32 rr ∧ lo = .int .u8 lo' ∧ hi = .int .u8 hi' ∧ n = .int .i64 k ∧ 128 ≤ lo' ∧ hi' ≤ 191 ∧ lo' ≤ 255 ∧ Hid (rr < 32 ∨ (2 ≤ k ∧ rr < 2048) ∨ (3 ≤ k ∧ rr < 131072) ∨ 4 ≤ k) ∧ Hid (U.fst1 u.data.toList = ((U.cont (4 - k) rr lo' hi' (u.data.toList.drop k)).1, (U.cont (4 - k) rr lo' hi' (u.data.toList.drop k)).2 + k)) ∧ ∃ m, wr = w.drewN m) (fun _ _ _ n _ => 4 - (intOf n).toNat)
  case atStart => 
    refine ⟨1, u[0].toNat % 8, slo u[0].toNat, shi u[0].toNat, by omega, by omega, by omega, ?_, rfl, rfl, rfl, slo_b _, shi_b _, ?_, Lib.hid (by omega), HS, ?_⟩
    · exact congrArg _ HA.out
    · unfold slo; (repeat' split) <;> omega
    · exact ⟨_, rfl⟩
  case round =>
    obtain ⟨k, rr, lo, hi, hk1, hkW, hku, rfl, rfl, rfl, rfl, hl, hh, hl2, HB, HF, m, rfl⟩ := hrel
    by_cases hkl : k < 4
    · have hrr : rr < 131072 := by have := HB.out; omega
      by_cases he : k = u.size
      · have HZ := Lib.hid (stop_nil HF.out (by omega) (List.drop_of_length_le (by simp; omega)))
        have he2 : (k : Int) = (u.size : Int) := by omega
        go_wp2
        go_ret2
        exact ⟨ret_ii (by rw [pair_fst HZ.out]; rfl) (by rw [pair_snd HZ.out]), _, rfl⟩
      · have hks : k < u.size := by omega
        have be : ((k : Int) == (u.size : Int)) = false := by rw [beq_eq_false_iff_ne]; omega
        have HD := Lib.hid (drop_cons u k hks)
        have hcc := u[k].toNat_lt
        by_cases hin : lo ≤ u[k].toNat ∧ u[k].toNat ≤ hi
        · have HV := Lib.hid (or_cont rr u[k].toNat hrr (by omega) (by omega))
          have HN := Lib.hid (goes_on (l' := 4 - (k + 1)) HF.out (by omega) HD.out hin rfl)
          have bl : decide ((u[k].toNat : Int) < (lo : Int)) = false := decide_eq_false (by omega)
          have bh : decide ((hi : Int) < (u[k].toNat : Int)) = false := decide_eq_false (by omega)
          obtain ⟨hin1, hin2⟩ := hin
          go_wp2_with fail
          refine ⟨⟨k + 1, _, 128, 191, by omega, by omega, by omega, ?_, rfl, rfl, by go_num, by omega, by omega, by omega, ?_, HN, m, rfl⟩, by simp [intOf]; omega⟩
          · exact congrArg _ (by omega)
          · exact Lib.hid (by have := HB.out; omega)
        · have HZ := Lib.hid (stop_out HF.out (by omega) HD.out hin)
          by_cases hlo : u[k].toNat < lo
          · clear hin
            have bl : decide ((u[k].toNat : Int) < (lo : Int)) = true := decide_eq_true (by omega)
            go_wp2
            go_ret2
            exact ⟨ret_ii (by rw [pair_fst HZ.out]; rfl) (by rw [pair_snd HZ.out]), _, rfl⟩
          · have hhi : hi < u[k].toNat := by omega
            clear hin
            have bl : decide ((u[k].toNat : Int) < (lo : Int)) = false := decide_eq_false (by omega)
            have bh : decide ((hi : Int) < (u[k].toNat : Int)) = true := decide_eq_true (by omega)
            go_wp2
            go_ret2
            exact ⟨ret_ii (by rw [pair_fst HZ.out]; rfl) (by rw [pair_snd HZ.out]), _, rfl⟩
    · have HZ := Lib.hid (fin_all HF.out (by omega))
      go_wp2
      go_ret2
      exact ⟨ret_ii (by rw [pair_fst HZ.out]) (by rw [pair_snd HZ.out]; omega), _, rfl⟩
theorem first_any (u : ByteArray) (hu : u.size ≤ maxLen) (h0 : 0 < u.size) (w : World) :
    Calls Tryd.prog 64 #[.string u] w fun e w' => e = .returned (.tuple #[.int .i32 (U.fst1 u.data.toList).1, .int .i64 (U.fst1 u.data.toList).2]) ∧ ∃ m, w' = w.drewN m := by
  have hc := u[0].toNat_lt
  by_cases h1 : u[0].toNat < 128
  · refine (first_1 u h0 h1 w).mono ?_
    rintro e w' ⟨rfl, rfl⟩
    have e := U.fst1_of (t := u.data.toList.drop 1) (U.lead1 u[0].toNat h1)
    rw [← list_cons u h0, U.cont_zero] at e
    exact ⟨ret_ii (by rw [pair_fst e]) (by rw [pair_snd e]; rfl), 0, rfl⟩
  · by_cases h2 : u[0].toNat < 194 ∨ 245 ≤ u[0].toNat
    · refine (first_0 u h0 (by omega) w).mono ?_
      rintro e w' ⟨rfl, rfl⟩
      have e : U.fst1 u.data.toList = (U.RC, 1) := by
        rw [list_cons u h0]
        have hl : U.lead u[0].toNat = none := U.lead_none _ (by omega)
        simp only [U.fst1, hl]
      exact ⟨ret_ii (by rw [pair_fst e]; rfl) (by rw [pair_snd e]; rfl), 0, rfl⟩
    · by_cases h3 : u[0].toNat < 224
      · exact first_2 u hu h0 (by omega) h3 w
      · by_cases h4 : u[0].toNat < 240
        · exact first_3 u hu h0 (by omega) h4 w
        · exact first_4 u hu h0 (by omega) (by omega) w
end Go.Proofs.YtikdncmgppckfaaDoor
namespace Go.Proofs.YtikdncmgppckfaaDoor
open Go.RowKit Go.Shelf
attribute [local go_sem] Oper.semAt_some
def encP (x : Nat × List UInt8) : Array Value := #[.int .i32 x.1, .string ⟨x.2.toArray⟩]
def boxLen (W : World) (bx : Nat) : Nat := match W.cell? ⟨bx, 0, none⟩ with | some (.string t) => t.size | _ => 0
theorem len_list (t : ByteArray) : t.data.toList.length = t.size := by rw [Array.length_toList]; rfl
theorem piece_of (t : ByteArray) (h0 : 0 < t.size) : ∃ r k : Nat, U.fst1 t.data.toList = (r, k) ∧ 1 ≤ k ∧ k ≤ t.size ∧ U.pieces t.data.toList = (r, (t.extract 0 k).data.toList) :: U.pieces (t.extract k t.size).data.toList := by
  have e := list_cons t h0
  have hw := U.fst1_w t[0] (t.data.toList.drop 1)
  have hp := U.pieces_cons t[0] (t.data.toList.drop 1)
  rw [← e] at hw hp
  refine ⟨(U.fst1 t.data.toList).1, (U.fst1 t.data.toList).2, rfl, hw.1, ?_, ?_⟩
  · have := hw.2.2; rw [List.length_drop, len_list] at this; omega
  · rw [extract_list, hp]
    congr 2
    simp only [ByteArray.data_extract, Array.toList_extract, List.extract_eq_take_drop]
    simp
theorem first_is (t : ByteArray) (ht : t.size ≤ maxLen) (h0 : 0 < t.size) (r k : Nat) (h : U.fst1 t.data.toList = (r, k)) (w : World) :
    Calls Tryd.prog 64 #[.string t] w fun e w' => e = .returned (.tuple #[.int .i32 r, .int .i64 k]) ∧ ∃ m, w' = w.drewN m :=
  (first_any t ht h0 w).mono fun _ _ ⟨h1, h2⟩ => ⟨by rw [h1, h], h2⟩
theorem grownBy_drewN (w : World) (m : Nat) : w.grownBy (w.drewN m) none := ⟨rfl, rfl, rfl, Nat.le_refl _, fun _ _ _ => rfl⟩
set_option maxHeartbeats 2000000 in
theorem iter_box (n : Nat) (hn : 2 ≤ n) (bx : Nat) (u : ByteArray) (hu : u.size ≤ maxLen) (w : World) (hb : w.heap[bx]? = some (.cells #[.string u] 9 (0, 0))) :
    SeqBox Fence.wide n Tryd.prog 63 #[.pointer (some ⟨bx, 0, none⟩)] encP 9 bx (fun xs => xs = U.pieces u.data.toList) (fun xs => xs <+: U.pieces u.data.toList) (U.pieces u.data.toList).length w := by
  intro l J Jx W hW hJ hJx hY h0
  refine callsIn_of_wp Tryd.func63 rfl trivial ?_ rfl
  simp only [Tryd.ntmps63, List.size_toArray, List.length_cons, List.length_nil, Nat.reduceAdd, Nat.reduceSub, Array.replicate_succ, Array.replicate_zero, List.push_toArray, List.append_toArray, List.nil_append, List.cons_append]
  have hbW := hW.trans hb
  clear hW hb
  gi_wp2
  gi_loopw [3] (fun p wr => ∃ (pre : List (Nat × List UInt8)) (t : ByteArray), Boxed wr bx 9 (.string t) ∧ t.size ≤ maxLen ∧ Hid (U.pieces u.data.toList = pre ++ U.pieces t.data.toList) ∧ J pre wr)
    (fun p wr => boxLen wr bx)
  case atStart =>
    exact ⟨[], u, hbW, hu, Lib.hid rfl, h0⟩
  case round =>
    obtain ⟨pre, t, hbx, ht, HP, hJs⟩ := hrel
    have hcell := hbx.cell
    have hfr := hbx.frozen
    by_cases h0 : 0 < t.size
    · obtain ⟨r, k, hp, hk1, hk2, hpc⟩ := piece_of t h0
      have HP2 := Lib.hid hpc
      clear hpc
      have HX := Lib.hid hp
      clear hp
      have hlen : pre.length < (U.pieces u.data.toList).length := by rw [HP.out, HP2.out]; simp
      unfold maxLen at ht
      gi_wp2_with fail
      refine ⟨trivial, fun _ => by omega, ?_⟩
      refine (callsIn_wide.2 (first_is t (by unfold maxLen; omega) h0 r k HX.out _)).mono ?_
      rintro e w1 ⟨rfl, m, rfl⟩
      have hJ1 := hJ pre wr (wr.drewN m) none hJs (grownBy_drewN wr m) (fun r e => by cases e)
      obtain ⟨fn, tmps, assign, body, hy, hR⟩ := hY pre (r, (t.extract 0 k).data.toList) (wr.drewN m) hJ1 hlen
      have hpt : (⟨(t.extract 0 k).data.toList.toArray⟩ : ByteArray) = t.extract 0 k := by rw [Array.toArray_toList]
      dsimp only [encP] at hy
      rw [hpt] at hy
      have hbx1 : Boxed (wr.drewN m) bx 9 (.string t) := hbx
      have hc1 := hbx1.cell
      have hf1 := hbx1.frozen
      gi_wp2_with fail
      refine ⟨fun _ => by omega, ?_⟩
      refine hR.mono ?_
      rintro e W3 (⟨rfl, hJ3, hb3⟩ | ⟨rfl, hJx3⟩)
      · have hbx3 : Boxed W3 bx 9 (.string t) := hb3.trans hbx
        have hc3 := hbx3.cell
        have hf3 := hbx3.frozen
        have hJ4 := hJ _ _ _ _ hJ3 (grownBy_setCell' W3 bx (.string (t.extract k t.size))) (fun r e => by cases e; exact ⟨rfl, ⟨t, hbx3⟩, ⟨_, hbx3.set _⟩⟩)
        have hxs : (t.extract k t.size).size = t.size - k := by rw [ByteArray.size_extract]; omega
        gi_wp2
        go_roundw
        case rel =>
          exact ⟨pre ++ [(r, (t.extract 0 k).data.toList)], t.extract k t.size, hbx3.set _, by unfold maxLen; omega, Lib.hid (by rw [HP.out, HP2.out]; simp), hJ4⟩
        case measure =>
          have e1 : boxLen wr bx = t.size := by unfold boxLen; rw [hcell]
          have e2 : boxLen (W3.setCell ⟨bx, 0, none⟩ (.string (t.extract k t.size))) bx = t.size - k := by
            unfold boxLen; rw [(hbx3.set (.string (t.extract k t.size))).cell, ← hxs]
          rw [e1, e2]; omega
      · gi_wp2
        refine bodyPost_ret (results_none rfl _ _ _) rfl ?_
        refine ⟨⟨_, rfl⟩, .inr ⟨pre ++ [(r, (t.extract 0 k).data.toList)], ?_, hJx3⟩⟩
        rw [HP.out, HP2.out]
        exact ⟨U.pieces (t.extract k t.size).data.toList, by simp⟩
    · have HE := Lib.hid (show U.pieces t.data.toList = [] by rw [List.eq_nil_of_length_eq_zero (l := t.data.toList) (by rw [len_list]; omega)]; rfl)
      gi_wp2
      go_end0
      exact ⟨⟨_, rfl⟩, .inl ⟨_, rfl, by rw [HP.out, HE.out, List.append_nil]; exact hJs⟩⟩
end Go.Proofs.YtikdncmgppckfaaDoor
namespace Go.Proofs.YtikdncmgppckfaaDoor
open Go.RowKit Go.Shelf
attribute [local go_sem] Oper.semAt_some
/-- 'a box holds a slice that owns its row' abides a store to a box of another type -/
theorem holdsRow_box {β : Type} (n₀ B0 bx Bs : Nat) (t e tt : TypeId) (ht : tt ≠ t) (he : tt ≠ e) (size : Nat) (k : β → Nat) (f : β → List Value) (G : β → Value → Prop) :
    OwnBox tt B0 bx (fun s W => ∃ v, Boxed W Bs t v ∧ W.ownsRow n₀ e size v (k s) (f s) ∧ G s v) := by
  rintro s X Y row ⟨v, hv, hr, hG⟩ hg hrow
  refine ⟨v, hv.kept hg (fun e' => ?_), hr.kept hg ?_, hG⟩
  · rcases hrow Bs e'.symm with ⟨_, o, ho, hc⟩ | ⟨rfl, ⟨x, hx⟩, _⟩
    · rw [show X.heap[Bs]? = _ from hv] at ho; cases ho; cases hc
    · have hh := hx.symm.trans (show X.heap[Bs]? = _ from hv)
      simp at hh
      exact ht hh.2
  · rcases hr.2 with ⟨rfl, _⟩ | ⟨g, cap, cur, rfl, _, hgb, _⟩
    · exact .inl rfl
    · refine .inr fun e' => ?_
      rcases hrow g (by simpa [Value.ownBlock] using e'.symm) with ⟨_, o, ho, hc⟩ | ⟨rfl, ⟨x, hx⟩, _⟩
      · rw [hgb] at ho; cases ho; cases hc
      · have hh := hx.symm.trans hgb
        simp at hh
        exact he hh.2
theorem ownBox_below {β : Type} {n₀ B0 bx : Nat} {tt : TypeId} {w : World} (h0 : n₀ ≤ w.heap.size) (h1 : n₀ ≤ B0) (h2 : n₀ ≤ bx) : OwnBox tt B0 bx (fun (_ : β) W => Below n₀ w W) := by
  intro s X Y row hs hg hr
  refine hs.grown hg (by have := hs.size; omega) fun k e => ?_
  rcases hr k e with ⟨h, _⟩ | ⟨h, _⟩ <;> omega
theorem ownBox_text {β : Type} {B0 bx : Nat} {tt : TypeId} : OwnBox tt B0 bx (fun (_ : β) W => TextBox tt bx W) := by
  intro s X Y row hs hg hr
  by_cases e : row = some bx
  · rcases hr bx e with ⟨_, o, ho, hc⟩ | ⟨_, _, h⟩
    · obtain ⟨x, hx⟩ := hs
      rw [hx] at ho; cases ho; cases hc
    · exact h
  · obtain ⟨x, hx⟩ := hs
    exact ⟨x, (hg.block bx (Array.getElem?_eq_some_iff.1 hx).1 (fun h => e h.symm)).trans hx⟩
theorem OwnBox.and {β : Type} {B bx : Nat} {t : TypeId} {I I' : β → World → Prop} (h : OwnBox t B bx I) (h' : OwnBox t B bx I') : OwnBox t B bx (fun s W => I s W ∧ I' s W) := fun s W W' row hs hg hr => ⟨h s W W' row hs.1 hg hr, h' s W W' row hs.2 hg hr⟩
set_option maxHeartbeats 1000000 in
theorem parts_box (n : Nat) (u : ByteArray) (w : World) :
    CallsIn Fence.wide n Tryd.prog 43 #[.string u] w fun e w' => e = .returned (.func (.func 63) #[] #[.pointer (some ⟨w.heap.size, 0, none⟩)]) ∧ w' = w.alloc (.cells #[.string u] 9) := by
  refine callsIn_of_wp Tryd.func43 rfl trivial ?_ rfl
  simp only [Tryd.ntmps43, List.size_toArray, List.length_cons, List.length_nil, Nat.reduceAdd, Nat.reduceSub, Array.replicate_succ, Array.replicate_zero, List.push_toArray, List.append_toArray, List.nil_append, List.cons_append]
  gi_wp2
  go_ret
  exact ⟨rfl, rfl⟩
def runeV (x : Nat × List UInt8) : Value := .int .i32 x.1
set_option maxRecDepth 100000 in
set_option maxHeartbeats 4000000 in
theorem decode_box (n : Nat) (hn : 4 ≤ n) (u : ByteArray) (hu : u.size ≤ maxLen) (hx : (U.pieces u.data.toList).length * 4 ≤ 140737488355328) (w : World) :
    CallsIn Fence.wide n Tryd.prog 59 #[.string u] w fun e W' => ∃ v, e = .returned v ∧ W'.ownsRow w.heap.size 21 1 v (U.pieces u.data.toList).length ((U.pieces u.data.toList).map runeV) ∧ (v = .slice none 0 0 ↔ U.pieces u.data.toList = []) ∧ Below w.heap.size w W' := by
  have h1 : 1 ≤ n := by omega
  obtain ⟨i0, hi, hz0, hz1, hz2⟩ := info_parts infoRune
  refine callsIn_of_wp_marks Tryd.func59 rfl trivial ?_ rfl
  simp only [Tryd.ntmps59, List.size_toArray, List.length_cons, List.length_nil, Nat.reduceAdd, Nat.reduceSub, Array.replicate_succ, Array.replicate_zero, List.push_toArray, List.append_toArray, List.nil_append, List.cons_append]
  gi_wp2_with (refine ⟨trivial, ?_⟩; gi_at_call 43; refine (parts_box (n - 1) _ _).mono ?_; rintro e w' ⟨rfl, rfl⟩)
  have bO := Boxed.new w 87 (.slice none 0 0)
  have bN := Boxed.new (w.alloc (.cells #[.slice none 0 0] 87)) 9 (.string u)
  rw [World.size_alloc] at bN
  have hB0 : Below w.heap.size w ((w.alloc (.cells #[.slice none 0 0] 87)).alloc (.cells #[.string u] 9)) := ((Below.refl _ w).alloc (Nat.le_refl _) _).alloc (by simp) _
  refine wpIn_rangeFunc_box rfl h1 (gf := 63) (lb := #[.pointer (some ⟨w.heap.size + 1, 0, none⟩)]) rfl trivial (enters_of Tryd.func63 (by kernel_rfl) rfl) (bx := w.heap.size + 1) (by simp)
    (iter_box (n - 1) (by omega) (w.heap.size + 1) u hu _ bN) (fun _ => rfl)
    (fun pre W => (∃ v, Boxed W w.heap.size 87 v ∧ W.ownsRow w.heap.size 21 1 v pre.length (pre.map runeV) ∧ (v = .slice none 0 0 ↔ pre = [])) ∧ Below w.heap.size w W ∧ TextBox 9 (w.heap.size + 1) W)
    (fun _ _ _ => False)
    (OwnBox.and (holdsRow_box w.heap.size _ (w.heap.size + 1) w.heap.size 87 21 9 (by decide) (by decide) 1 (fun pre => pre.length) (fun pre => pre.map runeV) (fun pre v => v = .slice none 0 0 ↔ pre = [])) (OwnBox.and (ownBox_below (Nat.le_refl _) (by simp; omega) (by omega)) ownBox_text))
    (fun _ _ _ _ _ hs _ _ => hs)
    ⟨⟨_, bO.alloc _, World.ownsRow_nil _ _ _ _, by simp⟩, hB0, ⟨u, bN⟩⟩
    (fun x => { tmps := #[.string u, undef, .slice none 0 0, .pointer (some ⟨w.heap.size, 0, none⟩), .int .i32 x.1, .string u, .func (.func 63) #[] #[.pointer (some ⟨w.heap.size + 1, 0, none⟩)], .int .i32 x.1, .string ⟨x.2.toArray⟩, undef, undef, undef, undef, undef], defers := [] }) ?assign ?body ?done ?stop
  case assign =>
    intro l x W K hK
    unfold encP
    gi_wp2
    exact hK
  case body =>
    rintro l pre x W ⟨⟨v, hv, hrow, hnil⟩, hB, ⟨tx, htx⟩⟩ hlt
    have hc := hv.cell
    gi_wp2_with (gi_at_builtin; refine wpListIn_append_own _ rfl _ _ 87 rfl w.heap.size 21 i0 (.int .i32 0) 1 4 Tryd.underlying87 hi hz0 hz1 hz2 rfl (by decide) _ _ _ rfl (hrow.alloc _) ⟨W.heap.size, 0, none⟩ 1 1 [runeV x] rfl rfl (cell_one_new _ _ _) (by simp [runeV, Value.oneCell']) (by unfold maxLen; omega) (by omega) (by have := hB.size; simp; omega) ?_; intro v' w1 hown' hgrow _; obtain ⟨g', cap', rfl⟩ := ownsRow_succ hown'; obtain ⟨hv1, hv2, hr2, hk2, hb2⟩ := hv.appended (by decide) hrow hB.size (Nat.le_refl _) hown' hgrow; have hc1 := hv1.cell; have hf1 := hv1.frozen)
    have hbx2 : (w1.setCell ⟨w.heap.size, 0, none⟩ (.slice (some ⟨g', 0, none⟩) (pre.length + 1) cap')).heap[w.heap.size + 1]? = W.heap[w.heap.size + 1]? := by
      rw [Below.heap_setCell _ _ _ _ (by simp)]
      have hne : some (w.heap.size + 1) ≠ v.ownBlock := by
        rcases hrow.2 with ⟨rfl, _⟩ | ⟨g, cap, cur, rfl, _, hgb, _⟩
        · simp [Value.ownBlock]
        · intro e'
          have e2 : w.heap.size + 1 = g := by simpa [Value.ownBlock] using e'
          rw [e2, hgb] at htx
          simp at htx
      exact (hgrow.block _ (by have := (Array.getElem?_eq_some_iff.1 htx).1; simp; omega) hne).trans (Below.heap_alloc _ _ _ (Array.getElem?_eq_some_iff.1 htx).1)
    exact ⟨hk2, hbx2, ⟨_, hv2, by simpa using hr2, by simp⟩, hB.trans hb2, ⟨tx, hbx2.trans htx⟩⟩
  case done =>
    rintro D ys W hD rfl ⟨⟨v, hv, hrow, hnil⟩, hB, _⟩ hK
    have hc := hv.cell
    gi_wp2
    refine ⟨by simp, .inl ⟨_, _, rfl, run_takeDeferred hK, ?_⟩⟩
    exact ⟨_, results_tmp rfl _ _ _, v, rfl, ownsRow_putObj hrow _ hK rfl, hnil, hB.trans (belowK_b (w := w) (Nat.le_refl _) W D _ _ (by simp at hD; omega) hK rfl rfl)⟩
  case stop =>
    rintro D c pre W _ _ h _
    exact h.elim
/-- the rune list l, owned in w by v -/
def Runes (w : World) (base : Nat) (v : Value) (l : List Int) : Prop := w.ownsRow base 21 1 v l.length (l.map (Value.int .i32)) ∧ (v = .slice none 0 0 ↔ l = [])
theorem runeV_map (l : List UInt8) : (U.pieces l).map runeV = (U.runesZ l).map (Value.int .i32) := by
  unfold U.runesZ U.runes
  rw [List.map_map, List.map_map]
  rfl
theorem pieces_len (l : List UInt8) : (U.pieces l).length = (U.runesZ l).length := by
  unfold U.runesZ U.runes
  rw [List.length_map, List.length_map]
theorem pieces_nil_iff (l : List UInt8) : U.pieces l = [] ↔ U.runesZ l = [] := by
  rw [← List.length_eq_zero_iff, ← List.length_eq_zero_iff, pieces_len]
theorem decode_runes (u : ByteArray) (l : List Int) (hl : U.runesZ u.data.toList = l) (hu : u.size * 4 ≤ 140737488355328) (w : World) :
    Calls Tryd.prog 59 #[.string u] w fun e w' => ∃ v, e = .returned v ∧ Runes w' w.heap.size v l ∧ Below w.heap.size w w' := by
  have hc := (U.runes_count u.data.toList).1
  rw [len_list] at hc
  refine (callsIn_wide (n := 4)).1 ((decode_box 4 (Nat.le_refl _) u (by unfold maxLen; omega) (by rw [pieces_len]; omega) w).mono ?_)
  rintro e w' ⟨v, rfl, h1, h2, h3⟩
  rw [runeV_map, pieces_len, hl] at h1
  rw [pieces_nil_iff, hl] at h2
  exact ⟨v, rfl, ⟨h1, h2⟩, h3⟩
end Go.Proofs.YtikdncmgppckfaaDoor
