import Derived.Test.YtikdncmgppckfaaDoorUtfA
namespace Go.Proofs.YtikdncmgppckfaaDoor
open Go.RowKit
set_option maxHeartbeats 400000 in
theorem further_is (r : Int) (h0 : 0 ≤ r) (h1 : r ≤ 1114111) (w : World) : Calls Tryd.prog 99 #[.int .i32 r] w fun e w' => e = .returned (.int .u8 (128 + r % 64)) ∧ w = w' :=
  (further_any r h0 h1 w).mono fun _ _ ⟨h1, h2⟩ => ⟨by rw [h1]; exact ret_int (by rw [U.u8_nat (by omega)]; omega), h2⟩
set_option maxHeartbeats 4000000 in
theorem put_1 (B b : Nat) (l : List UInt8) (r : Int) (h1 : 0 ≤ r) (h2 : r ≤ 127) (w : World) (h : Bld B b l w) (hlen : l.length + 4 ≤ 140737488355328) (hBw : B ≤ w.heap.size) :
    Calls Tryd.prog 76 #[.pointer (some ⟨b, 0, none⟩), .int .i32 r] w fun e w' => e = .returned (.tuple #[]) ∧ (Bld B b (l ++ U.encR r) w' ∧ Below B w w' ∧ Lib.OthersKept 5 (some b) w w') := by
  have HM := Lib.hid (show U.May r by unfold U.May; omega)
  have HL := Lib.hid (encR_len1 (r := r) h1 h2)
  have HE := Lib.hid (U.encR1 (r := r) h1 h2)
  go_enter Tryd.func76, Tryd.ntmps76
  go_wp2_with fail
  refine (may_yes r HM.out _).mono ?_
  rintro e w' ⟨rfl, rfl⟩
  go_wp2_with fail
  refine (width_is r 1 HL.out _).mono ?_
  rintro e w' ⟨rfl, rfl⟩
  go_wp2_with fail
  refine (writeB B b l (r).toNat.toUInt8 (r) (by rw [U.u8_nat (by omega)]; omega) _ h (by omega) (by omega)).mono ?_
  rintro e w1 ⟨rfl, hb1, hl1, ho1⟩
  have q1 := hl1.size
  go_wp2
  go_end0
  refine ⟨rfl, ?_, hl1, ho1⟩
  rw [HE.out]
  simpa using hb1
set_option maxHeartbeats 4000000 in
theorem put_2 (B b : Nat) (l : List UInt8) (r : Int) (h1 : 128 ≤ r) (h2 : r ≤ 2047) (w : World) (h : Bld B b l w) (hlen : l.length + 4 ≤ 140737488355328) (hBw : B ≤ w.heap.size) :
    Calls Tryd.prog 76 #[.pointer (some ⟨b, 0, none⟩), .int .i32 r] w fun e w' => e = .returned (.tuple #[]) ∧ (Bld B b (l ++ U.encR r) w' ∧ Below B w w' ∧ Lib.OthersKept 5 (some b) w w') := by
  have HM := Lib.hid (show U.May r by unfold U.May; omega)
  have HL := Lib.hid (encR_len2 (r := r) h1 h2)
  have HE := Lib.hid (U.encR2 (r := r) h1 h2)
  go_enter Tryd.func76, Tryd.ntmps76
  go_wp2_with fail
  refine (may_yes r HM.out _).mono ?_
  rintro e w' ⟨rfl, rfl⟩
  go_wp2_with fail
  refine (width_is r 2 HL.out _).mono ?_
  rintro e w' ⟨rfl, rfl⟩
  go_wp2_with fail
  refine (writeB B b l (192 + r / 64).toNat.toUInt8 (192 + r / 64) (by rw [U.u8_nat (by omega)]; omega) _ h (by omega) (by omega)).mono ?_
  rintro e w1 ⟨rfl, hb1, hl1, ho1⟩
  have q1 := hl1.size
  go_wp2_with fail
  refine (further_is r (by omega) (by omega) _).mono ?_
  rintro e w' ⟨rfl, rfl⟩
  go_wp2_with fail
  refine (writeB B b _ (128 + r % 64).toNat.toUInt8 (128 + r % 64) (by rw [U.u8_nat (by omega)]; omega) _ hb1 (by simp; omega) (by omega)).mono ?_
  rintro e w2 ⟨rfl, hb2, hl2, ho2⟩
  have q2 := hl2.size
  go_wp2
  go_end0
  refine ⟨rfl, ?_, (hl1).trans hl2, (ho1).trans ho2⟩
  rw [HE.out]
  simpa using hb2
set_option maxHeartbeats 4000000 in
theorem put_3 (B b : Nat) (l : List UInt8) (r : Int) (hr : (2048 ≤ r ∧ r < 55296) ∨ (57343 < r ∧ r ≤ 65535)) (w : World) (h : Bld B b l w) (hlen : l.length + 4 ≤ 140737488355328) (hBw : B ≤ w.heap.size) :
    Calls Tryd.prog 76 #[.pointer (some ⟨b, 0, none⟩), .int .i32 r] w fun e w' => e = .returned (.tuple #[]) ∧ (Bld B b (l ++ U.encR r) w' ∧ Below B w w' ∧ Lib.OthersKept 5 (some b) w w') := by
  have HM := Lib.hid (show U.May r by unfold U.May; omega)
  have HL := Lib.hid (encR_len3 (r := r) hr)
  have HE := Lib.hid (U.encR3 (r := r) hr)
  have g1 : 2048 ≤ r := by omega
  have g2 : r ≤ 65535 := by omega
  clear hr
  go_enter Tryd.func76, Tryd.ntmps76
  go_wp2_with fail
  refine (may_yes r HM.out _).mono ?_
  rintro e w' ⟨rfl, rfl⟩
  go_wp2_with fail
  refine (width_is r 3 HL.out _).mono ?_
  rintro e w' ⟨rfl, rfl⟩
  go_wp2_with fail
  refine (writeB B b l (224 + r / 4096).toNat.toUInt8 (224 + r / 4096) (by rw [U.u8_nat (by omega)]; omega) _ h (by omega) (by omega)).mono ?_
  rintro e w1 ⟨rfl, hb1, hl1, ho1⟩
  have q1 := hl1.size
  go_wp2_with fail
  refine (further_is (r / 64) (by omega) (by omega) _).mono ?_
  rintro e w' ⟨rfl, rfl⟩
  go_wp2_with fail
  refine (writeB B b _ (128 + (r / 64) % 64).toNat.toUInt8 (128 + (r / 64) % 64) (by rw [U.u8_nat (by omega)]; omega) _ hb1 (by simp; omega) (by omega)).mono ?_
  rintro e w2 ⟨rfl, hb2, hl2, ho2⟩
  have q2 := hl2.size
  go_wp2_with fail
  refine (further_is r (by omega) (by omega) _).mono ?_
  rintro e w' ⟨rfl, rfl⟩
  go_wp2_with fail
  refine (writeB B b _ (128 + r % 64).toNat.toUInt8 (128 + r % 64) (by rw [U.u8_nat (by omega)]; omega) _ hb2 (by simp; omega) (by omega)).mono ?_
  rintro e w3 ⟨rfl, hb3, hl3, ho3⟩
  have q3 := hl3.size
  go_wp2
  go_end0
  refine ⟨rfl, ?_, ((hl1).trans hl2).trans hl3, ((ho1).trans ho2).trans ho3⟩
  rw [HE.out]
  simpa using hb3
set_option maxHeartbeats 4000000 in
theorem put_4 (B b : Nat) (l : List UInt8) (r : Int) (h1 : 65536 ≤ r) (h2 : r ≤ 1114111) (w : World) (h : Bld B b l w) (hlen : l.length + 4 ≤ 140737488355328) (hBw : B ≤ w.heap.size) :
    Calls Tryd.prog 76 #[.pointer (some ⟨b, 0, none⟩), .int .i32 r] w fun e w' => e = .returned (.tuple #[]) ∧ (Bld B b (l ++ U.encR r) w' ∧ Below B w w' ∧ Lib.OthersKept 5 (some b) w w') := by
  have HM := Lib.hid (show U.May r by unfold U.May; omega)
  have HL := Lib.hid (encR_len4 (r := r) h1 h2)
  have HE := Lib.hid (U.encR4 (r := r) h1 h2)
  go_enter Tryd.func76, Tryd.ntmps76
  go_wp2_with fail
  refine (may_yes r HM.out _).mono ?_
  rintro e w' ⟨rfl, rfl⟩
  go_wp2_with fail
  refine (width_is r 4 HL.out _).mono ?_
  rintro e w' ⟨rfl, rfl⟩
  go_wp2_with fail
  refine (writeB B b l (240 + r / 262144).toNat.toUInt8 (240 + r / 262144) (by rw [U.u8_nat (by omega)]; omega) _ h (by omega) (by omega)).mono ?_
  rintro e w1 ⟨rfl, hb1, hl1, ho1⟩
  have q1 := hl1.size
  go_wp2_with fail
  refine (further_is (r / 4096) (by omega) (by omega) _).mono ?_
  rintro e w' ⟨rfl, rfl⟩
  go_wp2_with fail
  refine (writeB B b _ (128 + (r / 4096) % 64).toNat.toUInt8 (128 + (r / 4096) % 64) (by rw [U.u8_nat (by omega)]; omega) _ hb1 (by simp; omega) (by omega)).mono ?_
  rintro e w2 ⟨rfl, hb2, hl2, ho2⟩
  have q2 := hl2.size
  go_wp2_with fail
  refine (further_is (r / 64) (by omega) (by omega) _).mono ?_
  rintro e w' ⟨rfl, rfl⟩
  go_wp2_with fail
  refine (writeB B b _ (128 + (r / 64) % 64).toNat.toUInt8 (128 + (r / 64) % 64) (by rw [U.u8_nat (by omega)]; omega) _ hb2 (by simp; omega) (by omega)).mono ?_
  rintro e w3 ⟨rfl, hb3, hl3, ho3⟩
  have q3 := hl3.size
  go_wp2_with fail
  refine (further_is r (by omega) (by omega) _).mono ?_
  rintro e w' ⟨rfl, rfl⟩
  go_wp2_with fail
  refine (writeB B b _ (128 + r % 64).toNat.toUInt8 (128 + r % 64) (by rw [U.u8_nat (by omega)]; omega) _ hb3 (by simp; omega) (by omega)).mono ?_
  rintro e w4 ⟨rfl, hb4, hl4, ho4⟩
  have q4 := hl4.size
  go_wp2
  go_end0
  refine ⟨rfl, ?_, (((hl1).trans hl2).trans hl3).trans hl4, (((ho1).trans ho2).trans ho3).trans ho4⟩
  rw [HE.out]
  simpa using hb4
set_option maxHeartbeats 4000000 in
theorem put_bad (B b : Nat) (l : List UInt8) (r : Int) (hm : ¬ U.May r) (w : World) (h : Bld B b l w) (hlen : l.length + 4 ≤ 140737488355328) (hBw : B ≤ w.heap.size) :
    Calls Tryd.prog 76 #[.pointer (some ⟨b, 0, none⟩), .int .i32 r] w fun e w' => e = .returned (.tuple #[]) ∧ (Bld B b (l ++ U.encR r) w' ∧ Below B w w' ∧ Lib.OthersKept 5 (some b) w w') := by
  have HM := Lib.hid hm
  have HE := Lib.hid (U.encR_bad hm)
  have HLH := Lib.hid (show (U.encR 65533).length = 3 from encR_len3 (by omega))
  clear hm
  go_enter Tryd.func76, Tryd.ntmps76
  go_wp2_with fail
  refine (may_no r HM.out _).mono ?_
  rintro e w' ⟨rfl, rfl⟩
  go_wp2_with fail
  refine (width_is 65533 3 HLH.out _).mono ?_
  rintro e w' ⟨rfl, rfl⟩
  go_wp2_with fail
  refine (writeB B b l 239 239 rfl _ h (by omega) (by omega)).mono ?_
  rintro e w1 ⟨rfl, hb1, hl1, ho1⟩
  have q1 := hl1.size
  go_wp2_with fail
  refine (further_is 1023 (by omega) (by omega) _).mono ?_
  rintro e w' ⟨rfl, rfl⟩
  go_wp2_with fail
  refine (writeB B b _ 191 191 rfl _ hb1 (by simp; omega) (by omega)).mono ?_
  rintro e w2 ⟨rfl, hb2, hl2, ho2⟩
  have q2 := hl2.size
  go_wp2_with fail
  refine (further_is 65533 (by omega) (by omega) _).mono ?_
  rintro e w' ⟨rfl, rfl⟩
  go_wp2_with fail
  refine (writeB B b _ 189 189 rfl _ hb2 (by simp; omega) (by omega)).mono ?_
  rintro e w3 ⟨rfl, hb3, hl3, ho3⟩
  go_wp2
  go_end0
  refine ⟨rfl, ?_, (hl1.trans hl2).trans hl3, (ho1.trans ho2).trans ho3⟩
  rw [HE.out]
  simpa using hb3
theorem put_any (B b : Nat) (l : List UInt8) (r : Int) (w : World) (h : Bld B b l w) (hlen : l.length + 4 ≤ 140737488355328) (hBw : B ≤ w.heap.size) :
    Calls Tryd.prog 76 #[.pointer (some ⟨b, 0, none⟩), .int .i32 r] w fun e w' => e = .returned (.tuple #[]) ∧ (Bld B b (l ++ U.encR r) w' ∧ Below B w w' ∧ Lib.OthersKept 5 (some b) w w') := by
  by_cases hm : U.May r
  · have hr : (0 ≤ r ∧ r < 55296) ∨ (57343 < r ∧ r ≤ 1114111) := hm
    by_cases h1 : r ≤ 127
    · exact put_1 B b l r (by omega) h1 w h hlen hBw
    · by_cases h2 : r ≤ 2047
      · exact put_2 B b l r (by omega) h2 w h hlen hBw
      · by_cases h3 : r ≤ 65535
        · exact put_3 B b l r (by omega) w h hlen hBw
        · exact put_4 B b l r (by omega) (by omega) w h hlen hBw
  · exact put_bad B b l r hm w h hlen hBw
end Go.Proofs.YtikdncmgppckfaaDoor
