import Derived.Test.YtbclodbneonipaaGreatShelfM
import Derived.Test.YtbclodbneonipaaGreatUMM
import Derived.Test.YtbclodbneonipaaGreatTGM
import Derived.Test.YtbclodbneonipaaGreatSDM
import Derived.BigQuiet
import Derived.Deep.QuietTactic
namespace Go.Proofs.YtbclodbneonipaaGreat
open Go.RowKit
theorem extract_list (s : ByteArray) (k : Nat) : (s.extract k s.size).data.toList = s.data.toList.drop k := by
  simp only [ByteArray.data_extract, Array.toList_extract, List.extract_eq_take_drop]
  exact List.take_of_length_le (by simp)
theorem drop_cons (s : ByteArray) (k : Nat) (h : k < s.size) : s.data.toList.drop k = s[k] :: s.data.toList.drop (k + 1) := by
  rw [List.drop_eq_getElem_cons (by simpa using h)]; rfl
theorem writeByte_int (B b : Nat) (l : List UInt8) (c : UInt8) (n : Int) (hn : n = c.toNat) (w : World) (h : Bld B b l w) (hlen : l.length + 1 ≤ 140737488355328) (hBw : B ≤ w.heap.size) :
    Calls Tryz.prog 126 #[.pointer (some ⟨b, 0, none⟩), .int .u8 n] w fun e w' => e = .returned .nilIface ∧ (Bld B b (l ++ [c]) w' ∧ Below B w w' ∧ Lib.OthersKept 5 (some b) w w') := by
  subst hn; exact writeByte_any B b l c w h hlen hBw
theorem Bld.later {B b : Nat} {l : List UInt8} {w w' : World} (h : Bld B b l w) (hb : Below w.heap.size w w') : Bld B b l w' := by
  obtain ⟨hB, v, hbk, ⟨hn, hown⟩, hne⟩ := h
  refine ⟨hB, v, (hb.block b (lt_of_block hbk)).trans hbk, ⟨hn, ?_⟩, hne⟩
  rcases hown with h | ⟨g, cap, cur, fz, hv, hBg, hg, rest⟩
  · exact .inl h
  · exact .inr ⟨g, cap, cur, fz, hv, hBg, (hb.block g (lt_of_block hg)).trans hg, rest⟩
end Go.Proofs.YtbclodbneonipaaGreat
namespace Go.Proofs.YtbclodbneonipaaGreat
open Go.RowKit
theorem i32b (r : Int) (h : (Lit.int .i32 r).wf = true) : -2147483648 ≤ r ∧ r ≤ 2147483647 := by simpa [Lit.wf, IntKind.min, IntKind.max, IntKind.signed, IntKind.bits] using h
set_option maxHeartbeats 400000 in
theorem may_any (r : Int) (w : World) : Calls Tryz.prog 123 #[.int .i32 r] w fun e w' => e = .returned (.bool (decide (U.May r))) ∧ w = w' := by
  have H : Hid ((U.May r → decide (U.May r) = true) ∧ (¬ U.May r → decide (U.May r) = false)) := Lib.hid ⟨fun h => by simp [h], fun h => by simp [h]⟩
  by_cases h0 : 0 ≤ r
  · by_cases h1 : r ≤ 1114111
    · by_cases h2 : r < 55296
      · go_enter Tryz.func123, Tryz.ntmps123
        go_wp2
        go_ret
        exact ⟨ret_bool (by rw [H.out.1 (by unfold U.May; omega)]), rfl⟩
      · by_cases h3 : 57343 < r
        · go_enter Tryz.func123, Tryz.ntmps123
          go_wp2
          go_ret
          exact ⟨ret_bool (by rw [H.out.1 (by unfold U.May; omega)]), rfl⟩
        · go_enter Tryz.func123, Tryz.ntmps123
          go_wp2
          go_ret
          exact ⟨ret_bool (by rw [H.out.2 (by unfold U.May; omega)]), rfl⟩
    · go_enter Tryz.func123, Tryz.ntmps123
      go_wp2
      go_ret
      exact ⟨ret_bool (by rw [H.out.2 (by unfold U.May; omega)]), rfl⟩
  · go_enter Tryz.func123, Tryz.ntmps123
    go_wp2
    go_ret
    exact ⟨ret_bool (by rw [H.out.2 (by unfold U.May; omega)]), rfl⟩
theorem may_yes (r : Int) (h : U.May r) (w : World) : Calls Tryz.prog 123 #[.int .i32 r] w fun e w' => e = .returned (.bool true) ∧ w = w' := (may_any r w).mono fun _ _ ⟨h1, h2⟩ => ⟨by rw [h1]; exact ret_bool (by simp [h]), h2⟩
theorem may_no (r : Int) (h : ¬ U.May r) (w : World) : Calls Tryz.prog 123 #[.int .i32 r] w fun e w' => e = .returned (.bool false) ∧ w = w' := (may_any r w).mono fun _ _ ⟨h1, h2⟩ => ⟨by rw [h1]; exact ret_bool (by simp [h]), h2⟩
theorem encR_len1 {r : Int} (h0 : 0 ≤ r) (h1 : r ≤ 127) : (U.encR r).length = 1 := by rw [U.encR1 h0 h1]; rfl
theorem encR_len2 {r : Int} (h0 : 128 ≤ r) (h1 : r ≤ 2047) : (U.encR r).length = 2 := by rw [U.encR2 h0 h1]; rfl
theorem encR_len3 {r : Int} (h : (2048 ≤ r ∧ r < 55296) ∨ (57343 < r ∧ r ≤ 65535)) : (U.encR r).length = 3 := by rw [U.encR3 h]; rfl
theorem encR_len4 {r : Int} (h0 : 65536 ≤ r) (h1 : r ≤ 1114111) : (U.encR r).length = 4 := by rw [U.encR4 h0 h1]; rfl
theorem encR_lenb {r : Int} (h : ¬ U.May r) : (U.encR r).length = 3 := by rw [U.encR_bad h]; rfl
theorem ret_i64 {a b : Int} (h : a = b) : Ending.returned (.int .i64 a) = Ending.returned (.int .i64 b) := by rw [h]
set_option maxHeartbeats 400000 in
theorem width_any (r : Int) (w : World) : Calls Tryz.prog 116 #[.int .i32 r] w fun e w' => e = .returned (.int .i64 (U.encR r).length) ∧ w = w' := by
  by_cases hm : U.May r
  · have hr : (0 ≤ r ∧ r < 55296) ∨ (57343 < r ∧ r ≤ 1114111) := hm
    have HM := Lib.hid hm
    clear hm
    by_cases h1 : r < 128
    · have HL := Lib.hid (encR_len1 (r := r) (by omega) (by omega))
      clear hr
      go_enter Tryz.func116, Tryz.ntmps116
      go_wp2_with (go_at_call 123; refine (may_yes r HM.out _).mono ?_; rintro e w' ⟨rfl, rfl⟩)
      go_ret
      exact ⟨ret_i64 (by rw [HL.out]; rfl), rfl⟩
    · by_cases h2 : r < 2048
      · have HL := Lib.hid (encR_len2 (r := r) (by omega) (by omega))
        clear hr
        go_enter Tryz.func116, Tryz.ntmps116
        go_wp2_with (go_at_call 123; refine (may_yes r HM.out _).mono ?_; rintro e w' ⟨rfl, rfl⟩)
        go_ret
        exact ⟨ret_i64 (by rw [HL.out]; rfl), rfl⟩
      · by_cases h3 : r < 65536
        · have HL := Lib.hid (encR_len3 (r := r) (by omega))
          clear hr
          go_enter Tryz.func116, Tryz.ntmps116
          go_wp2_with (go_at_call 123; refine (may_yes r HM.out _).mono ?_; rintro e w' ⟨rfl, rfl⟩)
          go_ret
          exact ⟨ret_i64 (by rw [HL.out]; rfl), rfl⟩
        · have HL := Lib.hid (encR_len4 (r := r) (by omega) (by omega))
          clear hr
          go_enter Tryz.func116, Tryz.ntmps116
          go_wp2_with (go_at_call 123; refine (may_yes r HM.out _).mono ?_; rintro e w' ⟨rfl, rfl⟩)
          go_ret
          exact ⟨ret_i64 (by rw [HL.out]; rfl), rfl⟩
  · have HL := Lib.hid (encR_lenb hm)
    have HM := Lib.hid hm
    clear hm
    go_enter Tryz.func116, Tryz.ntmps116
    go_wp2_with (go_at_call 123; refine (may_no r HM.out _).mono ?_; rintro e w' ⟨rfl, rfl⟩)
    go_ret
    exact ⟨ret_i64 (by rw [HL.out]; rfl), rfl⟩
theorem and63 (r : Nat) (h : r ≤ 2147483647) : bits BinOp.and IntKind.i32 (r : Int) 63 = ((r % 64 : Nat) : Int) := by
  have e : (63 : Int) = ((63 : Nat) : Int) := rfl
  have h1 : (BitVec.ofInt 32 (r : Int)).toNat = r := by rw [BitVec.ofInt_natCast, BitVec.toNat_ofNat]; exact Nat.mod_eq_of_lt (by omega)
  have h3 : (BitVec.ofInt 32 ((63 : Nat) : Int)).toNat = 63 := by decide
  rw [e]
  show IntKind.i32.wrap ((BitVec.ofInt 32 (r : Int) &&& BitVec.ofInt 32 ((63 : Nat) : Int)).toNat : Int) = _
  rw [BitVec.toNat_and, h1, h3, nat_mask6]
  have : IntKind.i32.wrap ((r % 64 : Nat) : Int) = ((r % 64 : Nat) : Int) := by
    rw [IntKind.wrap_i32]; omega
  exact this
theorem or128 (x : Nat) (h : x < 64) : bits BinOp.or IntKind.u8 128 (x : Int) = ((128 + x : Nat) : Int) := by
  rw [show (128 : Int) = ((128 : Nat) : Int) from rfl, u8_or_nat _ _ (by omega) (by omega), nat_join 6 128 x (by omega) (by omega)]
theorem further_val (r : Int) (h0 : 0 ≤ r) (h1 : r ≤ 1114111) : bits BinOp.or IntKind.u8 128 (bits BinOp.and IntKind.i32 r 63 % 256) = (((128 + r % 64).toNat.toUInt8).toNat : Int) := by
  obtain ⟨n, rfl⟩ := Int.eq_ofNat_of_zero_le h0
  rw [and63 n (by omega), show (((n % 64 : Nat) : Int) % 256) = ((n % 64 : Nat) : Int) by omega, or128 _ (by omega), U.u8_nat (by omega)]
  omega
set_option maxHeartbeats 400000 in
theorem further_any (r : Int) (h0 : 0 ≤ r) (h1 : r ≤ 1114111) (w : World) : Calls Tryz.prog 127 #[.int .i32 r] w fun e w' => e = .returned (.int .u8 ((128 + r % 64).toNat.toUInt8).toNat) ∧ w = w' := by
  have HV := Lib.hid (further_val r h0 h1)
  go_enter Tryz.func127, Tryz.ntmps127
  go_wp2
  go_ret
  exact ⟨ret_int HV.out, rfl⟩
theorem writeB (B b : Nat) (l : List UInt8) (c : UInt8) (n : Int) (hn : n = c.toNat) (w : World) (h : Bld B b l w) (hlen : l.length + 1 ≤ 140737488355328) (hBw : B ≤ w.heap.size) :
    Calls Tryz.prog 126 #[.pointer (some ⟨b, 0, none⟩), .int .u8 n] w fun e w' => e = .returned .nilIface ∧ (Bld B b (l ++ [c]) w' ∧ Below B w w' ∧ Lib.OthersKept 5 (some b) w w') := writeByte_int B b l c n hn w h hlen hBw
theorem or_lead (base i x : Nat) (hb : base % 2 ^ i = 0) (hbb : base < 256) (hx : x < 2 ^ i) (hs : base + x < 256) : bits BinOp.or IntKind.u8 (base : Int) (x : Int) = ((base + x : Nat) : Int) := by
  rw [u8_or_nat _ _ hbb (by omega), nat_join i base x hb hx]
theorem width_is (r : Int) (n : Nat) (h : (U.encR r).length = n) (w : World) : Calls Tryz.prog 116 #[.int .i32 r] w fun e w' => e = .returned (.int .i64 n) ∧ w = w' := by
  rw [← h]; exact width_any r w
end Go.Proofs.YtbclodbneonipaaGreat
namespace Go.Proofs.YtbclodbneonipaaGreat
open Go.RowKit
set_option maxHeartbeats 400000 in
theorem further_is (r : Int) (h0 : 0 ≤ r) (h1 : r ≤ 1114111) (w : World) : Calls Tryz.prog 127 #[.int .i32 r] w fun e w' => e = .returned (.int .u8 (128 + r % 64)) ∧ w = w' :=
  (further_any r h0 h1 w).mono fun _ _ ⟨h1, h2⟩ => ⟨by rw [h1]; exact ret_int (by rw [U.u8_nat (by omega)]; omega), h2⟩
set_option maxHeartbeats 4000000 in
theorem put_1 (B b : Nat) (l : List UInt8) (r : Int) (h1 : 0 ≤ r) (h2 : r ≤ 127) (w : World) (h : Bld B b l w) (hlen : l.length + 4 ≤ 140737488355328) (hBw : B ≤ w.heap.size) :
    Calls Tryz.prog 118 #[.pointer (some ⟨b, 0, none⟩), .int .i32 r] w fun e w' => e = .returned (.tuple #[]) ∧ (Bld B b (l ++ U.encR r) w' ∧ Below B w w' ∧ Lib.OthersKept 5 (some b) w w') := by
  have HM := Lib.hid (show U.May r by unfold U.May; omega)
  have HL := Lib.hid (encR_len1 (r := r) h1 h2)
  have HE := Lib.hid (U.encR1 (r := r) h1 h2)
  go_enter Tryz.func118, Tryz.ntmps118
  go_wp2_with fail
  refine (may_yes r HM.out _).mono ?_
  rintro e w' ⟨rfl, rfl⟩
  go_wp2_with fail
  refine (width_is r 1 HL.out _).mono ?_
  rintro e w' ⟨rfl, rfl⟩
  go_wp2_with fail
  refine (writeB B b l (r).toNat.toUInt8 (r) (by rw [U.u8_nat (by omega)]; omega) _ h (by omega) (by omega)).mono ?_
  rintro e w1 ⟨rfl, hb1, hl1, ho1⟩
  have q1 := hl1.size
  go_wp2
  go_end0
  refine ⟨rfl, ?_, hl1, ho1⟩
  rw [HE.out]
  simpa using hb1
set_option maxHeartbeats 4000000 in
theorem put_2 (B b : Nat) (l : List UInt8) (r : Int) (h1 : 128 ≤ r) (h2 : r ≤ 2047) (w : World) (h : Bld B b l w) (hlen : l.length + 4 ≤ 140737488355328) (hBw : B ≤ w.heap.size) :
    Calls Tryz.prog 118 #[.pointer (some ⟨b, 0, none⟩), .int .i32 r] w fun e w' => e = .returned (.tuple #[]) ∧ (Bld B b (l ++ U.encR r) w' ∧ Below B w w' ∧ Lib.OthersKept 5 (some b) w w') := by
  have HM := Lib.hid (show U.May r by unfold U.May; omega)
  have HL := Lib.hid (encR_len2 (r := r) h1 h2)
  have HE := Lib.hid (U.encR2 (r := r) h1 h2)
  go_enter Tryz.func118, Tryz.ntmps118
  go_wp2_with fail
  refine (may_yes r HM.out _).mono ?_
  rintro e w' ⟨rfl, rfl⟩
  go_wp2_with fail
  refine (width_is r 2 HL.out _).mono ?_
  rintro e w' ⟨rfl, rfl⟩
  go_wp2_with fail
  refine (writeB B b l (192 + r / 64).toNat.toUInt8 (192 + r / 64) (by rw [U.u8_nat (by omega)]; omega) _ h (by omega) (by omega)).mono ?_
  rintro e w1 ⟨rfl, hb1, hl1, ho1⟩
  have q1 := hl1.size
  go_wp2_with fail
  refine (further_is r (by omega) (by omega) _).mono ?_
  rintro e w' ⟨rfl, rfl⟩
  go_wp2_with fail
  refine (writeB B b _ (128 + r % 64).toNat.toUInt8 (128 + r % 64) (by rw [U.u8_nat (by omega)]; omega) _ hb1 (by simp; omega) (by omega)).mono ?_
  rintro e w2 ⟨rfl, hb2, hl2, ho2⟩
  have q2 := hl2.size
  go_wp2
  go_end0
  refine ⟨rfl, ?_, (hl1).trans hl2, (ho1).trans ho2⟩
  rw [HE.out]
  simpa using hb2
set_option maxHeartbeats 4000000 in
theorem put_3 (B b : Nat) (l : List UInt8) (r : Int) (hr : (2048 ≤ r ∧ r < 55296) ∨ (57343 < r ∧ r ≤ 65535)) (w : World) (h : Bld B b l w) (hlen : l.length + 4 ≤ 140737488355328) (hBw : B ≤ w.heap.size) :
    Calls Tryz.prog 118 #[.pointer (some ⟨b, 0, none⟩), .int .i32 r] w fun e w' => e = .returned (.tuple #[]) ∧ (Bld B b (l ++ U.encR r) w' ∧ Below B w w' ∧ Lib.OthersKept 5 (some b) w w') := by
  have HM := Lib.hid (show U.May r by unfold U.May; omega)
  have HL := Lib.hid (encR_len3 (r := r) hr)
  have HE := Lib.hid (U.encR3 (r := r) hr)
  have g1 : 2048 ≤ r := by omega
  have g2 : r ≤ 65535 := by omega
  clear hr
  go_enter Tryz.func118, Tryz.ntmps118
  go_wp2_with fail
  refine (may_yes r HM.out _).mono ?_
  rintro e w' ⟨rfl, rfl⟩
  go_wp2_with fail
  refine (width_is r 3 HL.out _).mono ?_
  rintro e w' ⟨rfl, rfl⟩
  go_wp2_with fail
  refine (writeB B b l (224 + r / 4096).toNat.toUInt8 (224 + r / 4096) (by rw [U.u8_nat (by omega)]; omega) _ h (by omega) (by omega)).mono ?_
  rintro e w1 ⟨rfl, hb1, hl1, ho1⟩
  have q1 := hl1.size
  go_wp2_with fail
  refine (further_is (r / 64) (by omega) (by omega) _).mono ?_
  rintro e w' ⟨rfl, rfl⟩
  go_wp2_with fail
  refine (writeB B b _ (128 + (r / 64) % 64).toNat.toUInt8 (128 + (r / 64) % 64) (by rw [U.u8_nat (by omega)]; omega) _ hb1 (by simp; omega) (by omega)).mono ?_
  rintro e w2 ⟨rfl, hb2, hl2, ho2⟩
  have q2 := hl2.size
  go_wp2_with fail
  refine (further_is r (by omega) (by omega) _).mono ?_
  rintro e w' ⟨rfl, rfl⟩
  go_wp2_with fail
  refine (writeB B b _ (128 + r % 64).toNat.toUInt8 (128 + r % 64) (by rw [U.u8_nat (by omega)]; omega) _ hb2 (by simp; omega) (by omega)).mono ?_
  rintro e w3 ⟨rfl, hb3, hl3, ho3⟩
  have q3 := hl3.size
  go_wp2
  go_end0
  refine ⟨rfl, ?_, ((hl1).trans hl2).trans hl3, ((ho1).trans ho2).trans ho3⟩
  rw [HE.out]
  simpa using hb3
set_option maxHeartbeats 4000000 in
theorem put_4 (B b : Nat) (l : List UInt8) (r : Int) (h1 : 65536 ≤ r) (h2 : r ≤ 1114111) (w : World) (h : Bld B b l w) (hlen : l.length + 4 ≤ 140737488355328) (hBw : B ≤ w.heap.size) :
    Calls Tryz.prog 118 #[.pointer (some ⟨b, 0, none⟩), .int .i32 r] w fun e w' => e = .returned (.tuple #[]) ∧ (Bld B b (l ++ U.encR r) w' ∧ Below B w w' ∧ Lib.OthersKept 5 (some b) w w') := by
  have HM := Lib.hid (show U.May r by unfold U.May; omega)
  have HL := Lib.hid (encR_len4 (r := r) h1 h2)
  have HE := Lib.hid (U.encR4 (r := r) h1 h2)
  go_enter Tryz.func118, Tryz.ntmps118
  go_wp2_with fail
  refine (may_yes r HM.out _).mono ?_
  rintro e w' ⟨rfl, rfl⟩
  go_wp2_with fail
  refine (width_is r 4 HL.out _).mono ?_
  rintro e w' ⟨rfl, rfl⟩
  go_wp2_with fail
  refine (writeB B b l (240 + r / 262144).toNat.toUInt8 (240 + r / 262144) (by rw [U.u8_nat (by omega)]; omega) _ h (by omega) (by omega)).mono ?_
  rintro e w1 ⟨rfl, hb1, hl1, ho1⟩
  have q1 := hl1.size
  go_wp2_with fail
  refine (further_is (r / 4096) (by omega) (by omega) _).mono ?_
  rintro e w' ⟨rfl, rfl⟩
  go_wp2_with fail
  refine (writeB B b _ (128 + (r / 4096) % 64).toNat.toUInt8 (128 + (r / 4096) % 64) (by rw [U.u8_nat (by omega)]; omega) _ hb1 (by simp; omega) (by omega)).mono ?_
  rintro e w2 ⟨rfl, hb2, hl2, ho2⟩
  have q2 := hl2.size
  go_wp2_with fail
  refine (further_is (r / 64) (by omega) (by omega) _).mono ?_
  rintro e w' ⟨rfl, rfl⟩
  go_wp2_with fail
  refine (writeB B b _ (128 + (r / 64) % 64).toNat.toUInt8 (128 + (r / 64) % 64) (by rw [U.u8_nat (by omega)]; omega) _ hb2 (by simp; omega) (by omega)).mono ?_
  rintro e w3 ⟨rfl, hb3, hl3, ho3⟩
  have q3 := hl3.size
  go_wp2_with fail
  refine (further_is r (by omega) (by omega) _).mono ?_
  rintro e w' ⟨rfl, rfl⟩
  go_wp2_with fail
  refine (writeB B b _ (128 + r % 64).toNat.toUInt8 (128 + r % 64) (by rw [U.u8_nat (by omega)]; omega) _ hb3 (by simp; omega) (by omega)).mono ?_
  rintro e w4 ⟨rfl, hb4, hl4, ho4⟩
  have q4 := hl4.size
  go_wp2
  go_end0
  refine ⟨rfl, ?_, (((hl1).trans hl2).trans hl3).trans hl4, (((ho1).trans ho2).trans ho3).trans ho4⟩
  rw [HE.out]
  simpa using hb4
set_option maxHeartbeats 4000000 in
theorem put_bad (B b : Nat) (l : List UInt8) (r : Int) (hm : ¬ U.May r) (w : World) (h : Bld B b l w) (hlen : l.length + 4 ≤ 140737488355328) (hBw : B ≤ w.heap.size) :
    Calls Tryz.prog 118 #[.pointer (some ⟨b, 0, none⟩), .int .i32 r] w fun e w' => e = .returned (.tuple #[]) ∧ (Bld B b (l ++ U.encR r) w' ∧ Below B w w' ∧ Lib.OthersKept 5 (some b) w w') := by
  have HM := Lib.hid hm
  have HE := Lib.hid (U.encR_bad hm)
  have HLH := Lib.hid (show (U.encR 65533).length = 3 from encR_len3 (by omega))
  clear hm
  go_enter Tryz.func118, Tryz.ntmps118
  go_wp2_with fail
  refine (may_no r HM.out _).mono ?_
  rintro e w' ⟨rfl, rfl⟩
  go_wp2_with fail
  refine (width_is 65533 3 HLH.out _).mono ?_
  rintro e w' ⟨rfl, rfl⟩
  go_wp2_with fail
  refine (writeB B b l 239 239 rfl _ h (by omega) (by omega)).mono ?_
  rintro e w1 ⟨rfl, hb1, hl1, ho1⟩
  have q1 := hl1.size
  go_wp2_with fail
  refine (further_is 1023 (by omega) (by omega) _).mono ?_
  rintro e w' ⟨rfl, rfl⟩
  go_wp2_with fail
  refine (writeB B b _ 191 191 rfl _ hb1 (by simp; omega) (by omega)).mono ?_
  rintro e w2 ⟨rfl, hb2, hl2, ho2⟩
  have q2 := hl2.size
  go_wp2_with fail
  refine (further_is 65533 (by omega) (by omega) _).mono ?_
  rintro e w' ⟨rfl, rfl⟩
  go_wp2_with fail
  refine (writeB B b _ 189 189 rfl _ hb2 (by simp; omega) (by omega)).mono ?_
  rintro e w3 ⟨rfl, hb3, hl3, ho3⟩
  go_wp2
  go_end0
  refine ⟨rfl, ?_, (hl1.trans hl2).trans hl3, (ho1.trans ho2).trans ho3⟩
  rw [HE.out]
  simpa using hb3
theorem put_any (B b : Nat) (l : List UInt8) (r : Int) (w : World) (h : Bld B b l w) (hlen : l.length + 4 ≤ 140737488355328) (hBw : B ≤ w.heap.size) :
    Calls Tryz.prog 118 #[.pointer (some ⟨b, 0, none⟩), .int .i32 r] w fun e w' => e = .returned (.tuple #[]) ∧ (Bld B b (l ++ U.encR r) w' ∧ Below B w w' ∧ Lib.OthersKept 5 (some b) w w') := by
  by_cases hm : U.May r
  · have hr : (0 ≤ r ∧ r < 55296) ∨ (57343 < r ∧ r ≤ 1114111) := hm
    by_cases h1 : r ≤ 127
    · exact put_1 B b l r (by omega) h1 w h hlen hBw
    · by_cases h2 : r ≤ 2047
      · exact put_2 B b l r (by omega) h2 w h hlen hBw
      · by_cases h3 : r ≤ 65535
        · exact put_3 B b l r (by omega) w h hlen hBw
        · exact put_4 B b l r (by omega) (by omega) w h hlen hBw
  · exact put_bad B b l r hm w h hlen hBw
end Go.Proofs.YtbclodbneonipaaGreat
namespace Go.Proofs.YtbclodbneonipaaGreat
open Go.RowKit
def wid (b : Nat) : Nat := if b < 128 then 1 else if b < 194 then 0 else if b < 224 then 2 else if b < 240 then 3 else if b < 245 then 4 else 0
set_option maxRecDepth 20000 in
set_option maxHeartbeats 1000000 in
theorem begun_any (b : Nat) (hb : b < 256) (w : World) : Calls Tryz.prog 128 #[.int .u8 b] w fun e w' => e = .returned (.int .i64 (wid b)) ∧ w = w' := by
  by_cases h1 : b < 128
  · have H := Lib.hid (show wid b = 1 by unfold wid; rw [if_pos h1])
    go_enter Tryz.func128, Tryz.ntmps128
    go_wp2
    go_ret
    exact ⟨ret_i64 (by rw [H.out]; rfl), rfl⟩
  · by_cases h2 : b < 194
    · have H := Lib.hid (show wid b = 0 by unfold wid; rw [if_neg h1, if_pos h2])
      go_enter Tryz.func128, Tryz.ntmps128
      go_wp2
      go_ret
      exact ⟨ret_i64 (by rw [H.out]; rfl), rfl⟩
    · by_cases h3 : b < 224
      · have H := Lib.hid (show wid b = 2 by unfold wid; rw [if_neg h1, if_neg h2, if_pos h3])
        go_enter Tryz.func128, Tryz.ntmps128
        go_wp2
        go_ret
        exact ⟨ret_i64 (by rw [H.out]; rfl), rfl⟩
      · by_cases h4 : b < 240
        · have H := Lib.hid (show wid b = 3 by unfold wid; rw [if_neg h1, if_neg h2, if_neg h3, if_pos h4])
          go_enter Tryz.func128, Tryz.ntmps128
          go_wp2
          go_ret
          exact ⟨ret_i64 (by rw [H.out]; rfl), rfl⟩
        · by_cases h5 : b < 245
          · have H := Lib.hid (show wid b = 4 by unfold wid; rw [if_neg h1, if_neg h2, if_neg h3, if_neg h4, if_pos h5])
            go_enter Tryz.func128, Tryz.ntmps128
            go_wp2
            go_ret
            exact ⟨ret_i64 (by rw [H.out]; rfl), rfl⟩
          · have H := Lib.hid (show wid b = 0 by unfold wid; rw [if_neg h1, if_neg h2, if_neg h3, if_neg h4, if_neg h5])
            go_enter Tryz.func128, Tryz.ntmps128
            go_wp2
            go_ret
            exact ⟨ret_i64 (by rw [H.out]; rfl), rfl⟩
def slo (b : Nat) : Nat := if b = 224 then 160 else if b = 240 then 144 else 128
def shi (b : Nat) : Nat := if b = 237 then 159 else if b = 244 then 143 else 191
theorem ret_bb {a b c d : Int} (h : a = b) (h2 : c = d) : Ending.returned (.tuple #[.int .u8 a, .int .u8 c]) = Ending.returned (.tuple #[.int .u8 b, .int .u8 d]) := by rw [h, h2]
set_option maxHeartbeats 400000 in
theorem second_any (b : Nat) (hb : b < 256) (w : World) : Calls Tryz.prog 129 #[.int .u8 b] w fun e w' => e = .returned (.tuple #[.int .u8 (slo b), .int .u8 (shi b)]) ∧ w = w' := by
  by_cases h1 : b = 224
  · subst h1
    go_enter Tryz.func129, Tryz.ntmps129
    go_wp2
    go_ret2
    exact ⟨rfl, rfl⟩
  · by_cases h2 : b = 237
    · subst h2
      go_enter Tryz.func129, Tryz.ntmps129
      go_wp2
      go_ret2
      exact ⟨rfl, rfl⟩
    · by_cases h3 : b = 240
      · subst h3
        go_enter Tryz.func129, Tryz.ntmps129
        go_wp2
        go_ret2
        exact ⟨rfl, rfl⟩
      · by_cases h4 : b = 244
        · subst h4
          go_enter Tryz.func129, Tryz.ntmps129
          go_wp2
          go_ret2
          exact ⟨rfl, rfl⟩
        · have H1 := Lib.hid (show slo b = 128 by unfold slo; rw [if_neg h1, if_neg h3])
          have H2 := Lib.hid (show shi b = 191 by unfold shi; rw [if_neg h2, if_neg h4])
          go_enter Tryz.func129, Tryz.ntmps129
          go_wp2
          go_ret2
          exact ⟨ret_bb (by rw [H1.out]; rfl) (by rw [H2.out]; rfl), rfl⟩
theorem and_mask (b i m : Nat) (hm : m = 2 ^ i - 1) (hi : i ≤ 30) (hb : b < 256) : bits BinOp.and IntKind.i32 (b : Int) (m : Int) = ((b % 2 ^ i : Nat) : Int) := by
  have h2 : 2 ^ i ≤ 2 ^ 30 := Nat.pow_le_pow_right (by omega) hi
  have h1 : (BitVec.ofInt 32 (b : Int)).toNat = b := by rw [BitVec.ofInt_natCast, BitVec.toNat_ofNat]; exact Nat.mod_eq_of_lt (by omega)
  have h3 : (BitVec.ofInt 32 (m : Int)).toNat = m := by rw [BitVec.ofInt_natCast, BitVec.toNat_ofNat]; exact Nat.mod_eq_of_lt (by omega)
  show IntKind.i32.wrap ((BitVec.ofInt 32 (b : Int) &&& BitVec.ofInt 32 (m : Int)).toNat : Int) = _
  rw [BitVec.toNat_and, h1, h3, hm, Nat.and_two_pow_sub_one_eq_mod]
  have : b % 2 ^ i ≤ b := Nat.mod_le _ _
  rw [IntKind.wrap_i32]; omega
theorem or_low (r x : Nat) (hr : r < 2 ^ 24) (hx : x < 64) : bits BinOp.or IntKind.i32 ((r : Int) * 64) (x : Int) = ((64 * r + x : Nat) : Int) := by
  have e : ((r : Int) * 64) = ((r * 64 : Nat) : Int) := by omega
  have h1 : (BitVec.ofInt 32 ((r * 64 : Nat) : Int)).toNat = r * 64 := by rw [BitVec.ofInt_natCast, BitVec.toNat_ofNat]; exact Nat.mod_eq_of_lt (by omega)
  have h3 : (BitVec.ofInt 32 (x : Int)).toNat = x := by rw [BitVec.ofInt_natCast, BitVec.toNat_ofNat]; exact Nat.mod_eq_of_lt (by omega)
  rw [e]
  show IntKind.i32.wrap ((BitVec.ofInt 32 ((r * 64 : Nat) : Int) ||| BitVec.ofInt 32 (x : Int)).toNat : Int) = _
  rw [BitVec.toNat_or, h1, h3, nat_join 6 (r * 64) x (by omega) (by omega), IntKind.wrap_i32]; omega
end Go.Proofs.YtbclodbneonipaaGreat
