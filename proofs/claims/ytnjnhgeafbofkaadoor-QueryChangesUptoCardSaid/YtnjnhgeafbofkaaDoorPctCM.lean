import Derived.Test.YtnjnhgeafbofkaaDoorPctAM
import Derived.Test.YtnjnhgeafbofkaaDoorPBM
import Derived.Test.YtnjnhgeafbofkaaDoorUtfBM
/-
  The contract of package pct's Decode (with escaped and digit): for every text of at most 2^47 bytes it answers what the plain function dec of the mathematics text answers; nothing that was there is changed.
-/
namespace Go.Proofs.YtnjnhgeafbofkaaDoor
open Go.RowKit M
theorem ret_ib {k : IntKind} {a b : Int} {x y : Bool} (h : a = b) (h2 : x = y) : Ending.returned (.tuple #[.int k a, .bool x]) = Ending.returned (.tuple #[.int k b, .bool y]) := by rw [h, h2]
set_option maxHeartbeats 400000 in
theorem digit_yes (c : UInt8) (h : hexv c.toNat < 16) (w : World) : Calls Tryd.prog 100 #[.int .u8 c.toNat] w fun e w' => e = .returned (.tuple #[.int .u8 (hexv c.toNat), .bool true]) ∧ w = w' := by
  have hc := c.toNat_lt
  by_cases h1 : 48 ≤ c.toNat ∧ c.toNat ≤ 57
  · have HV := Lib.hid (show hexv c.toNat = c.toNat - 48 by unfold hexv; rw [if_pos h1])
    obtain ⟨h1a, h1b⟩ := h1
    clear h
    go_enter Tryd.func100, Tryd.ntmps100
    go_wp2
    go_ret2
    exact ⟨ret_ib (by rw [HV.out]; omega) rfl, rfl⟩
  · by_cases h2 : 97 ≤ c.toNat ∧ c.toNat ≤ 102
    · have HV := Lib.hid (show hexv c.toNat = c.toNat - 87 by unfold hexv; rw [if_neg h1, if_pos h2])
      obtain ⟨h2a, h2b⟩ := h2
      clear h h1
      go_enter Tryd.func100, Tryd.ntmps100
      go_wp2
      go_ret2
      exact ⟨ret_ib (by rw [HV.out]; omega) rfl, rfl⟩
    · by_cases h3 : 65 ≤ c.toNat ∧ c.toNat ≤ 70
      · have HV := Lib.hid (show hexv c.toNat = c.toNat - 55 by unfold hexv; rw [if_neg h1, if_neg h2, if_pos h3])
        obtain ⟨h3a, h3b⟩ := h3
        clear h h1 h2
        go_enter Tryd.func100, Tryd.ntmps100
        go_wp2
        go_ret2
        exact ⟨ret_ib (by rw [HV.out]; omega) rfl, rfl⟩
      · exfalso; unfold hexv at h; rw [if_neg h1, if_neg h2, if_neg h3] at h; omega
theorem digit_split (n : Nat) (h : ¬ hexv n < 16) : n < 48 ∨ (57 < n ∧ n < 65) ∨ (70 < n ∧ n < 97) ∨ 102 < n := by
  unfold hexv at h
  by_cases h1 : 48 ≤ n ∧ n ≤ 57
  · rw [if_pos h1] at h; omega
  · by_cases h2 : 97 ≤ n ∧ n ≤ 102
    · rw [if_neg h1, if_pos h2] at h; omega
    · by_cases h3 : 65 ≤ n ∧ n ≤ 70
      · rw [if_neg h1, if_neg h2, if_pos h3] at h; omega
      · omega
set_option maxHeartbeats 400000 in
theorem digit_no (c : UInt8) (h : ¬ hexv c.toNat < 16) (w : World) : Calls Tryd.prog 100 #[.int .u8 c.toNat] w fun e w' => e = .returned (.tuple #[.int .u8 0, .bool false]) ∧ w = w' := by
  have hc := c.toNat_lt
  have hs := digit_split _ h
  clear h
  rcases hs with h | ⟨h, h'⟩ | ⟨h, h'⟩ | h
  all_goals
    go_enter Tryd.func100, Tryd.ntmps100
    go_wp2
    go_ret2
    exact ⟨rfl, rfl⟩
theorem shl4 (a b : Nat) (ha : a < 16) (hb : b < 16) : bits BinOp.or IntKind.u8 ((a : Int) * 16) (b : Int) = (((UInt8.ofNat (a * 16 + b)).toNat : Nat) : Int) := by
  have e : ((a : Int) * 16) = ((a * 16 : Nat) : Int) := by omega
  rw [e, u8_or_nat _ _ (by omega) (by omega), nat_join 4 (a * 16) b (by omega) (by omega), UInt8.toNat_ofNat', Nat.mod_eq_of_lt (by omega)]
set_option maxHeartbeats 400000 in
theorem escaped_yes (u : ByteArray) (hu : u.size ≤ maxLen) (h3 : 3 ≤ u.size) (h0 : u[0] = 37) (h1 : hexv u[1].toNat < 16) (h2 : hexv u[2].toNat < 16) (w : World) :
    Calls Tryd.prog 77 #[.string u] w fun e w' => e = .returned (.tuple #[.int .u8 (UInt8.ofNat (hexv u[1].toNat * 16 + hexv u[2].toNat)).toNat, .bool true]) ∧ w = w' := by
  unfold maxLen at hu
  have z0 : ((u[0].toNat : Int) != 37) = false := by rw [h0]; rfl
  have HV := Lib.hid (shl4 _ _ h1 h2)
  clear h0
  go_enter Tryd.func77, Tryd.ntmps77
  go_wp2_with (go_at_call 100; refine (digit_yes _ (by assumption) _).mono ?_; rintro e w' ⟨rfl, rfl⟩)
  go_ret2
  exact ⟨ret_ib HV.out rfl, rfl⟩
set_option maxHeartbeats 400000 in
theorem escaped_short (u : ByteArray) (h3 : u.size < 3) (w : World) :
    Calls Tryd.prog 77 #[.string u] w fun e w' => e = .returned (.tuple #[.int .u8 0, .bool false]) ∧ w = w' := by
  go_enter Tryd.func77, Tryd.ntmps77
  go_wp2
  go_ret2
  exact ⟨rfl, rfl⟩
set_option maxHeartbeats 400000 in
theorem escaped_other (u : ByteArray) (hu : u.size ≤ maxLen) (h3 : 3 ≤ u.size) (h0 : ¬ u[0] = 37) (w : World) :
    Calls Tryd.prog 77 #[.string u] w fun e w' => e = .returned (.tuple #[.int .u8 0, .bool false]) ∧ w = w' := by
  unfold maxLen at hu
  have z0 : ((u[0].toNat : Int) != 37) = true := by
    rw [bne_iff_ne]; intro e; exact h0 (UInt8.toNat_inj.1 (by show _ = 37; omega))
  clear h0
  go_enter Tryd.func77, Tryd.ntmps77
  go_wp2
  go_ret2
  exact ⟨rfl, rfl⟩
set_option maxHeartbeats 400000 in
theorem escaped_no1 (u : ByteArray) (hu : u.size ≤ maxLen) (h3 : 3 ≤ u.size) (h0 : u[0] = 37) (h1 : ¬ hexv u[1].toNat < 16) (w : World) :
    Calls Tryd.prog 77 #[.string u] w fun e w' => e = .returned (.tuple #[.int .u8 0, .bool false]) ∧ w = w' := by
  unfold maxLen at hu
  have z0 : ((u[0].toNat : Int) != 37) = false := by rw [h0]; rfl
  clear h0
  go_enter Tryd.func77, Tryd.ntmps77
  go_wp2_with (go_at_call 100; refine (digit_no _ (by assumption) _).mono ?_; rintro e w' ⟨rfl, rfl⟩)
  go_ret2
  exact ⟨rfl, rfl⟩
set_option maxHeartbeats 400000 in
theorem escaped_no2 (u : ByteArray) (hu : u.size ≤ maxLen) (h3 : 3 ≤ u.size) (h0 : u[0] = 37) (h1 : hexv u[1].toNat < 16) (h2 : ¬ hexv u[2].toNat < 16) (w : World) :
    Calls Tryd.prog 77 #[.string u] w fun e w' => e = .returned (.tuple #[.int .u8 0, .bool false]) ∧ w = w' := by
  unfold maxLen at hu
  have z0 : ((u[0].toNat : Int) != 37) = false := by rw [h0]; rfl
  clear h0
  go_enter Tryd.func77, Tryd.ntmps77
  go_wp2_with fail
  refine (digit_yes _ h1 _).mono ?_
  rintro e w' ⟨rfl, rfl⟩
  go_wp2_with fail
  refine (digit_no _ h2 _).mono ?_
  rintro e w' ⟨rfl, rfl⟩
  go_wp2
  go_ret2
  exact ⟨rfl, rfl⟩
theorem esc_list (u : ByteArray) (h : 3 ≤ u.size) : ∃ r, u.data.toList = u[0] :: u[1] :: u[2] :: r := by
  obtain ⟨⟨l⟩⟩ := u
  match l, h with
  | a :: b :: c :: r, _ => exact ⟨r, rfl⟩
theorem escaped_some (u : ByteArray) (hu : u.size ≤ maxLen) (v : UInt8) (h : escL u.data.toList = some v) (w : World) :
    Calls Tryd.prog 77 #[.string u] w fun e w' => e = .returned (.tuple #[.int .u8 v.toNat, .bool true]) ∧ w = w' := by
  have h3 : 3 ≤ u.size := by have := (dec_some h).1; simpa using this
  obtain ⟨r, hr⟩ := esc_list u h3
  rw [hr] at h
  simp only [escL] at h
  by_cases hc : u[0] = 37 ∧ hexv u[1].toNat < 16 ∧ hexv u[2].toNat < 16
  · rw [if_pos hc] at h
    cases h
    exact escaped_yes u hu h3 hc.1 hc.2.1 hc.2.2 w
  · rw [if_neg hc] at h; cases h
theorem escaped_none (u : ByteArray) (hu : u.size ≤ maxLen) (h : escL u.data.toList = none) (w : World) :
    Calls Tryd.prog 77 #[.string u] w fun e w' => e = .returned (.tuple #[.int .u8 0, .bool false]) ∧ w = w' := by
  by_cases h3 : 3 ≤ u.size
  · obtain ⟨r, hr⟩ := esc_list u h3
    rw [hr] at h
    simp only [escL] at h
    by_cases hc : u[0] = 37 ∧ hexv u[1].toNat < 16 ∧ hexv u[2].toNat < 16
    · rw [if_pos hc] at h; cases h
    · by_cases h0 : u[0] = 37
      · by_cases h1 : hexv u[1].toNat < 16
        · exact escaped_no2 u hu h3 h0 h1 (fun h2 => hc ⟨h0, h1, h2⟩) w
        · exact escaped_no1 u hu h3 h0 h1 w
      · exact escaped_other u hu h3 h0 w
  · exact escaped_short u (by omega) w
set_option maxHeartbeats 1000000 in
theorem decode_any (s : ByteArray) (hs : s.size ≤ 140737488355328) (w : World) :
    Calls Tryd.prog 52 #[.string s] w fun e w' => e = .returned (.string ⟨(dec s.data.toList).toArray⟩) ∧ Below w.heap.size w w' := by
  have hblk := heap_alloc_new w (.cells #[.pointer none, .slice none 0 0] 47)
  go_enter Tryd.func52, Tryd.ntmps52
  go_wp2_with (go_at_call 75; refine (grow_any w.heap.size w.heap.size s.size _ (Nat.le_refl _) hblk (by simp) (by omega)).mono ?_; rintro e w1 ⟨rfl, hb1, hbel1⟩)
  have hbel := ((Below.refl w.heap.size w).alloc (Nat.le_refl _) (.cells #[.pointer none, .slice none 0 0] 47)).trans hbel1
  clear hbel1 hblk
  go_loopw [4] (fun i wr => ∃ (k : Nat) (acc : List UInt8), k ≤ s.size ∧ i = .int .i64 k ∧ Bld w.heap.size w.heap.size acc wr ∧ acc.length ≤ k ∧ Hid (acc ++ dec (s.data.toList.drop k) = dec s.data.toList) ∧ Below w.heap.size w wr) (fun i _ => s.size - (intOf i).toNat)
  case atStart => exact ⟨0, [], by omega, rfl, hb1, by simp, Lib.hid rfl, hbel⟩
  case round =>
    clear hb1 hbel
    obtain ⟨k, acc, hk, rfl, hb, hal, HD, hbel⟩ := hrel
    have hsz := hbel.size
    by_cases hlt : k < s.size
    · have HL := Lib.hid (extract_list s k)
      have HC := Lib.hid (drop_cons s k hlt)
      have hxs : (s.extract k s.size).size ≤ maxLen := by have := ByteArray.size_extract (a := s) (b := k) (e := s.size); unfold maxLen; omega
      cases he : escL (s.data.toList.drop k) with
      | some v =>
        have h3 := dec_some he
        have HE := Lib.hid he
        obtain ⟨h3, hd⟩ := h3
        have h3' : k + 3 ≤ s.size := by simp at h3; omega
        have HD2 := Lib.hid hd
        clear he hd h3
        go_wp2_with (first | (go_at_call 77; refine (escaped_some (s.extract k s.size) hxs v (by rw [HL.out]; exact HE.out) _).mono ?_; rintro e w2 ⟨rfl, rfl⟩) | (go_at_call 45; refine (writeByte_any w.heap.size w.heap.size acc v _ hb (by omega) (by omega)).mono ?_; rintro e w3 ⟨rfl, hb3, hbel3, _⟩))
        go_roundw
        case rel =>
          refine ⟨k + 3, acc ++ [v], by omega, by go_num, hb3, by simp; omega, Lib.hid ?_, hbel.trans hbel3⟩
          rw [← HD.out, HD2.out, List.drop_drop, List.append_assoc]; rfl
        case measure => simp [intOf]; omega
      | none =>
        have HE := Lib.hid he
        have HD2 := Lib.hid (dec_none (by rw [← drop_cons s k hlt]; exact he))
        clear he
        go_wp2_with (first | (go_at_call 77; refine (escaped_none (s.extract k s.size) hxs (by rw [HL.out]; exact HE.out) _).mono ?_; rintro e w2 ⟨rfl, rfl⟩) | (go_at_call 45; refine (writeByte_any w.heap.size w.heap.size acc s[k] _ hb (by omega) (by omega)).mono ?_; rintro e w3 ⟨rfl, hb3, hbel3, _⟩))
        go_roundw
        case rel =>
          refine ⟨k + 1, acc ++ [s[k]], by omega, by go_num, hb3, by simp; omega, Lib.hid ?_, hbel.trans hbel3⟩
          rw [← HD.out, HC.out, HD2.out, List.append_assoc]; rfl
        case measure => simp [intOf]; omega
    · have HF := Lib.hid (show acc = dec s.data.toList by
        rw [← HD.out, List.drop_of_length_le (by simp; omega), dec_nil, List.append_nil])
      go_wp2_with (go_at_call 27; refine (string_any w.heap.size w.heap.size acc _ hb (by omega)).mono ?_; rintro e w3 ⟨rfl, hbel3⟩)
      go_ret
      exact ⟨by rw [← HF.out]; rfl, hbel.trans hbel3⟩
end Go.Proofs.YtnjnhgeafbofkaaDoor
/-
  The contract of package pct's Encode: of what is no set it answers the empty text and ErrType; by a set it answers the encoded text, for every text of which three times the length is at most 2^47; nothing that was there is changed.
-/
namespace Go.Proofs.YtnjnhgeafbofkaaDoor
open Go.RowKit M
theorem enc_step (s : Nat) (t : ByteArray) (k : Nat) (h : k < t.size) : enc s (t.data.toList.take (k + 1)) = enc s (t.data.toList.take k) ++ enc1 s t[k] := by
  rw [take_snoc _ _ (by simpa using h)]
  unfold enc
  rw [List.flatMap_append]
  simp only [List.flatMap_cons, List.flatMap_nil, List.append_nil]
  rfl
theorem enc1_yes (s : Nat) (b : UInt8) (h : inB s b.toNat = true) : enc1 s b = [37, hexU (b.toNat / 16), hexU (b.toNat % 16)] := by unfold enc1; rw [if_pos h]
theorem enc1_no (s : Nat) (b : UInt8) (h : ¬ inB s b.toNat = true) : enc1 s b = [b] := by unfold enc1; rw [if_neg h]
theorem enc1_len (s : Nat) (b : UInt8) : (enc1 s b).length ≤ 3 := by unfold enc1; split <;> simp
theorem enc_len (s : Nat) (l : List UInt8) : (enc s l).length ≤ 3 * l.length := by
  induction l with
  | nil => simp [enc]
  | cons b l ih =>
    have h1 := enc1_len s b
    have h2 : enc s (b :: l) = enc1 s b ++ enc s l := by simp [enc]
    rw [h2, List.length_append, List.length_cons]; omega
theorem tab_hex (i : Nat) (h : i < (⟨#[48, 49, 50, 51, 52, 53, 54, 55, 56, 57, 65, 66, 67, 68, 69, 70]⟩ : ByteArray).size) : (⟨#[48, 49, 50, 51, 52, 53, 54, 55, 56, 57, 65, 66, 67, 68, 69, 70]⟩ : ByteArray)[i] = hexU i := by
  have hh : i < 16 := h
  have : ∀ j : Fin 16, (⟨#[48, 49, 50, 51, 52, 53, 54, 55, 56, 57, 65, 66, 67, 68, 69, 70]⟩ : ByteArray)[j.1]'(j.2) = hexU j.1 := by decide
  exact this ⟨i, hh⟩
theorem ret_si {a b : ByteArray} {x y : Int} (h : a = b) (h2 : x = y) : Ending.returned (.tuple #[.string a, .int .i64 x]) = Ending.returned (.tuple #[.string b, .int .i64 y]) := by rw [h, h2]
set_option maxHeartbeats 400000 in
theorem encode_bad (t : ByteArray) (s : Nat) (hs : s < 256) (h : s = 0 ∨ 9 ≤ s) (w : World) :
    Calls Tryd.prog 66 #[.string t, .int .u8 s] w fun e w' => e = .returned (.tuple #[.string ⟨#[]⟩, .int .i64 5]) ∧ w = w' := by
  rcases h with rfl | h
  · go_enter Tryd.func66, Tryd.ntmps66
    go_wp2
    go_ret2
    exact ⟨rfl, rfl⟩
  · have n0 : ((s : Int) == 0) = false := by rw [beq_eq_false_iff_ne]; omega
    go_enter Tryd.func66, Tryd.ntmps66
    go_wp2
    go_ret2
    exact ⟨rfl, rfl⟩
set_option maxHeartbeats 1000000 in
theorem encode_any (t : ByteArray) (ht : 3 * t.size ≤ 140737488355328) (s : Nat) (h1 : 1 ≤ s) (h8 : s ≤ 8) (w : World) :
    Calls Tryd.prog 66 #[.string t, .int .u8 s] w fun e w' => e = .returned (.tuple #[.string ⟨(enc s t.data.toList).toArray⟩, .int .i64 0]) ∧ Below w.heap.size w w' := by
  have n0 : ((s : Int) == 0) = false := by rw [beq_eq_false_iff_ne]; omega
  have n9 : decide ((9 : Int) ≤ (s : Int)) = false := by simp; omega
  go_enter Tryd.func66, Tryd.ntmps66
  go_wp2_with (go_at_call 86; refine (of_any s (by omega) _).mono ?_)
  rintro e w1 ⟨m0, m1, m2, m3, rfl, HM, hbel0⟩
  have hblk := heap_alloc_new (w1.alloc (.cells #[.int .u64 m0, .int .u64 m1, .int .u64 m2, .int .u64 m3] 115)) (.cells #[.pointer none, .slice none 0 0] 47)
  go_wp2_with fail
  refine (grow_any (w1.heap.size + 1) (w1.heap.size + 1) t.size _ (Nat.le_refl _) (by simpa using hblk) (by simp) (by omega)).mono ?_
  rintro e w2 ⟨rfl, hb1, hbel1⟩
  have hm : w2.heap[w1.heap.size]? = some (.cells #[.int .u64 m0, .int .u64 m1, .int .u64 m2, .int .u64 m3] 115 (0, 0)) :=
    (hbel1.block w1.heap.size (by simp)).trans ((Below.heap_alloc _ _ _ (by simp)).trans (heap_alloc_new w1 _))
  have hz := hbel1.size
  simp at hz
  have hbelw : Below w.heap.size w w2 := hbel0.trans (((((Below.refl _ w1).alloc (Nat.le_refl _) _).alloc (by simp) _).trans (hbel1.mono (by simp))).mono hbel0.size)
  have HOK : Hid (okM (m0, m1, m2, m3)) := Lib.hid (by rw [← HM.out]; exact mk_ok _)
  have h0s := hbel0.size
  clear hblk hbel1 hbel0
  go_wp2_with fail
  go_loopw [23] (fun i wr => ∃ (k : Nat), k ≤ t.size ∧ i = .int .i64 k ∧ Bld (w1.heap.size + 1) (w1.heap.size + 1) (enc s (t.data.toList.take k)) wr ∧ wr.heap[w1.heap.size]? = some (.cells #[.int .u64 m0, .int .u64 m1, .int .u64 m2, .int .u64 m3] 115 (0, 0)) ∧ w1.heap.size + 1 ≤ wr.heap.size ∧ Below w.heap.size w wr) (fun i _ => t.size - (intOf i).toNat)
  case atStart => exact ⟨0, by omega, rfl, hb1, hm, by omega, hbelw⟩
  case round =>
    clear hb1 hbelw hm hz
    obtain ⟨k, hk, rfl, hb, hm, hz, hbel⟩ := hrel
    by_cases hlt : k < t.size
    · obtain ⟨e0, e1, e2, e3, _⟩ := cells4 hm
      have HM2 := Lib.hid hm
      clear hm
      have hlen : (enc s (t.data.toList.take k)).length ≤ 3 * k := by
        have := enc_len s (t.data.toList.take k)
        rw [List.length_take_of_le (by simp; omega)] at this
        exact this
      by_cases hin : inB s t[k].toNat = true
      · have hbit : bitAt (m0, m1, m2, m3) t[k].toNat = true := by rw [← HM.out, bit_in _ _ (t[k].toNat_lt)]; exact hin
        clear hin
        have hu := t[k].toNat_lt
        go_wp2_with (go_at_call 87; refine (has_any m0 m1 m2 m3 _ (by omega) HOK.out _).mono ?_; rintro e w3 ⟨rfl, hb3⟩)
        have HB4 := Lib.hid (hb.later hb3)
        have h3s := hb3.size
        have HE := Lib.hid (enc_step s t k hlt)
        generalize enc s (t.data.toList.take k) = E at *
        refine (writeByte_int _ _ E 37 37 rfl _ HB4.out (by omega) (by omega)).mono ?_
        rintro e w4 ⟨rfl, hb4, hbel4, _⟩
        have h4s := hbel4.size
        go_wp2_with fail
        refine (writeByte_any _ _ (E ++ [37]) _ _ hb4 (by simp; omega) (by omega)).mono ?_
        rintro e w5 ⟨rfl, hb5, hbel5, _⟩
        have h5s := hbel5.size
        go_wp2_with fail
        refine (writeByte_any _ _ _ _ _ hb5 (by simp; omega) (by omega)).mono ?_
        rintro e w6 ⟨rfl, hb6, hbel6, _⟩
        have h6s := hbel6.size
        go_wp2
        go_roundw
        case rel =>
          refine ⟨k + 1, by omega, by go_num, ?_, ?_, by omega, ?_⟩
          · rw [HE.out, enc1_yes _ _ (by rw [← bit_in _ _ (by omega), HM.out]; exact hbit)]
            rw [tab_hex, tab_hex] at hb6
            simpa using hb6
          · exact (hbel6.block _ (by omega)).trans ((hbel5.block _ (by omega)).trans ((hbel4.block _ (by omega)).trans ((hb3.block _ (by omega)).trans HM2.out)))
          · exact ((hbel.trans (hb3.mono hbel.size)).trans (hbel4.mono (by have := hbel.size; omega))).trans ((hbel5.mono (by have := hbel.size; omega)).trans (hbel6.mono (by have := hbel.size; omega)))
        case measure => simp [intOf]; omega
      · have hbit : bitAt (m0, m1, m2, m3) t[k].toNat = false := by rw [← HM.out, bit_in _ _ (t[k].toNat_lt)]; simpa using hin
        clear hin
        have hu := t[k].toNat_lt
        go_wp2_with (go_at_call 87; refine (has_any m0 m1 m2 m3 _ (by omega) HOK.out _).mono ?_; rintro e w3 ⟨rfl, hb3⟩)
        have HB4 := Lib.hid (hb.later hb3)
        have h3s := hb3.size
        have HE := Lib.hid (enc_step s t k hlt)
        generalize enc s (t.data.toList.take k) = E at *
        refine (writeByte_any _ _ E _ _ HB4.out (by omega) (by omega)).mono ?_
        rintro e w4 ⟨rfl, hb4, hbel4, _⟩
        have h4s := hbel4.size
        go_wp2
        go_roundw
        case rel =>
          refine ⟨k + 1, by omega, by go_num, ?_, ?_, by omega, ?_⟩
          · rw [HE.out, enc1_no _ _ (by rw [← bit_in _ _ (by omega), HM.out, hbit]; simp)]
            exact hb4
          · exact (hbel4.block _ (by omega)).trans ((hb3.block _ (by omega)).trans HM2.out)
          · exact (hbel.trans (hb3.mono hbel.size)).trans (hbel4.mono (by have := hbel.size; omega))
        case measure => simp [intOf]; omega
    · have HF := Lib.hid (show enc s (t.data.toList.take k) = enc s t.data.toList by rw [List.take_of_length_le (by simp; omega)])
      have hs2 := hbel.size
      clear hm
      go_wp2_with (go_at_call 27; refine (string_any _ _ _ _ hb (by omega)).mono ?_; rintro e w3 ⟨rfl, hbel3⟩)
      go_ret2
      exact ⟨by rw [← HF.out]; rfl, hbel.trans (hbel3.mono (by omega))⟩
end Go.Proofs.YtnjnhgeafbofkaaDoor
namespace Go.Proofs.YtnjnhgeafbofkaaDoor
open Go.RowKit
theorem enc_take (l : List Int) (k : Nat) (h : k < l.length) : U.enc (l.take (k + 1)) = U.enc (l.take k) ++ U.encR l[k] := by
  rw [take_snoc l k h, U.enc_app, U.enc_cons, U.enc_nil, List.append_nil]
theorem enc_take_len (l : List Int) (k : Nat) (h : k ≤ l.length) : (U.enc (l.take k)).length ≤ 4 * k := by
  have := U.enc_len (l.take k)
  rw [List.length_take_of_le h] at this
  exact this
end Go.Proofs.YtnjnhgeafbofkaaDoor
