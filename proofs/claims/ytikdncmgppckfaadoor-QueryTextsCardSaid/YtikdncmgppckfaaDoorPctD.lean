import Derived.Test.YtikdncmgppckfaaDoorPctC
/-
  The contract of package pct's Encode: of what is no set it answers the empty text and ErrType; by a set it answers the encoded text, for every text of which three times the length is at most 2^47; nothing that was there is changed.
-/
namespace Go.Proofs.YtikdncmgppckfaaDoor
open Go.RowKit M
theorem enc_step (s : Nat) (t : ByteArray) (k : Nat) (h : k < t.size) : enc s (t.data.toList.take (k + 1)) = enc s (t.data.toList.take k) ++ enc1 s t[k] := by
  rw [take_snoc _ _ (by simpa using h)]
  unfold enc
  rw [List.flatMap_append]
  simp only [List.flatMap_cons, List.flatMap_nil, List.append_nil]
  rfl
theorem enc1_yes (s : Nat) (b : UInt8) (h : inB s b.toNat = true) : enc1 s b = [37, hexU (b.toNat / 16), hexU (b.toNat % 16)] := by unfold enc1; rw [if_pos h]
theorem enc1_no (s : Nat) (b : UInt8) (h : ¬ inB s b.toNat = true) : enc1 s b = [b] := by unfold enc1; rw [if_neg h]
theorem enc1_len (s : Nat) (b : UInt8) : (enc1 s b).length ≤ 3 := by unfold enc1; split <;> simp
theorem enc_len (s : Nat) (l : List UInt8) : (enc s l).length ≤ 3 * l.length := by
  induction l with
  | nil => simp [enc]
  | cons b l ih =>
    have h1 := enc1_len s b
    have h2 : enc s (b :: l) = enc1 s b ++ enc s l := by simp [enc]
    rw [h2, List.length_append, List.length_cons]; omega
theorem tab_hex (i : Nat) (h : i < (⟨#[48, 49, 50, 51, 52, 53, 54, 55, 56, 57, 65, 66, 67, 68, 69, 70]⟩ : ByteArray).size) : (⟨#[48, 49, 50, 51, 52, 53, 54, 55, 56, 57, 65, 66, 67, 68, 69, 70]⟩ : ByteArray)[i] = hexU i := by
  have hh : i < 16 := h
  have : ∀ j : Fin 16, (⟨#[48, 49, 50, 51, 52, 53, 54, 55, 56, 57, 65, 66, 67, 68, 69, 70]⟩ : ByteArray)[j.1]'(j.2) = hexU j.1 := by decide
  exact this ⟨i, hh⟩
theorem ret_si {a b : ByteArray} {x y : Int} (h : a = b) (h2 : x = y) : Ending.returned (.tuple #[.string a, .int .i64 x]) = Ending.returned (.tuple #[.string b, .int .i64 y]) := by rw [h, h2]
set_option maxHeartbeats 400000 in
theorem encode_bad (t : ByteArray) (s : Nat) (hs : s < 256) (h : s = 0 ∨ 9 ≤ s) (w : World) :
    Calls Tryd.prog 66 #[.string t, .int .u8 s] w fun e w' => e = .returned (.tuple #[.string ⟨#[]⟩, .int .i64 5]) ∧ w = w' := by
  rcases h with rfl | h
  · go_enter Tryd.func66, Tryd.ntmps66
    go_wp2
    go_ret2
    exact ⟨rfl, rfl⟩
  · have n0 : ((s : Int) == 0) = false := by rw [beq_eq_false_iff_ne]; omega
    go_enter Tryd.func66, Tryd.ntmps66
    go_wp2
    go_ret2
    exact ⟨rfl, rfl⟩
set_option maxHeartbeats 1000000 in
theorem encode_any (t : ByteArray) (ht : 3 * t.size ≤ 140737488355328) (s : Nat) (h1 : 1 ≤ s) (h8 : s ≤ 8) (w : World) :
    Calls Tryd.prog 66 #[.string t, .int .u8 s] w fun e w' => e = .returned (.tuple #[.string ⟨(enc s t.data.toList).toArray⟩, .int .i64 0]) ∧ Below w.heap.size w w' := by
  have n0 : ((s : Int) == 0) = false := by rw [beq_eq_false_iff_ne]; omega
  have n9 : decide ((9 : Int) ≤ (s : Int)) = false := by simp; omega
  go_enter Tryd.func66, Tryd.ntmps66
  go_wp2_with (go_at_call 86; refine (of_any s (by omega) _).mono ?_)
  rintro e w1 ⟨m0, m1, m2, m3, rfl, HM, hbel0⟩
  have hblk := heap_alloc_new (w1.alloc (.cells #[.int .u64 m0, .int .u64 m1, .int .u64 m2, .int .u64 m3] 115)) (.cells #[.pointer none, .slice none 0 0] 47)
  go_wp2_with fail
  refine (grow_any (w1.heap.size + 1) (w1.heap.size + 1) t.size _ (Nat.le_refl _) (by simpa using hblk) (by simp) (by omega)).mono ?_
  rintro e w2 ⟨rfl, hb1, hbel1⟩
  have hm : w2.heap[w1.heap.size]? = some (.cells #[.int .u64 m0, .int .u64 m1, .int .u64 m2, .int .u64 m3] 115 (0, 0)) :=
    (hbel1.block w1.heap.size (by simp)).trans ((Below.heap_alloc _ _ _ (by simp)).trans (heap_alloc_new w1 _))
  have hz := hbel1.size
  simp at hz
  have hbelw : Below w.heap.size w w2 := hbel0.trans (((((Below.refl _ w1).alloc (Nat.le_refl _) _).alloc (by simp) _).trans (hbel1.mono (by simp))).mono hbel0.size)
  have HOK : Hid (okM (m0, m1, m2, m3)) := Lib.hid (by rw [← HM.out]; exact mk_ok _)
  have h0s := hbel0.size
  clear hblk hbel1 hbel0
  go_wp2_with fail
  go_loopw [23] (fun i wr => ∃ (k : Nat), k ≤ t.size ∧ i = .int .i64 k ∧ Bld (w1.heap.size + 1) (w1.heap.size + 1) (enc s (t.data.toList.take k)) wr ∧ wr.heap[w1.heap.size]? = some (.cells #[.int .u64 m0, .int .u64 m1, .int .u64 m2, .int .u64 m3] 115 (0, 0)) ∧ w1.heap.size + 1 ≤ wr.heap.size ∧ Below w.heap.size w wr) (fun i _ => t.size - (intOf i).toNat)
  case atStart => exact ⟨0, by omega, rfl, hb1, hm, by omega, hbelw⟩
  case round =>
    clear hb1 hbelw hm hz
    obtain ⟨k, hk, rfl, hb, hm, hz, hbel⟩ := hrel
    by_cases hlt : k < t.size
    · obtain ⟨e0, e1, e2, e3, _⟩ := cells4 hm
      have HM2 := Lib.hid hm
      clear hm
      have hlen : (enc s (t.data.toList.take k)).length ≤ 3 * k := by
        have := enc_len s (t.data.toList.take k)
        rw [List.length_take_of_le (by simp; omega)] at this
        exact this
      by_cases hin : inB s t[k].toNat = true
      · have hbit : bitAt (m0, m1, m2, m3) t[k].toNat = true := by rw [← HM.out, bit_in _ _ (t[k].toNat_lt)]; exact hin
        clear hin
        have hu := t[k].toNat_lt
        go_wp2_with (go_at_call 87; refine (has_any m0 m1 m2 m3 _ (by omega) HOK.out _).mono ?_; rintro e w3 ⟨rfl, hb3⟩)
        have HB4 := Lib.hid (hb.later hb3)
        have h3s := hb3.size
        have HE := Lib.hid (enc_step s t k hlt)
        generalize enc s (t.data.toList.take k) = E at *
        refine (writeByte_int _ _ E 37 37 rfl _ HB4.out (by omega) (by omega)).mono ?_
        rintro e w4 ⟨rfl, hb4, hbel4, _⟩
        have h4s := hbel4.size
        go_wp2_with fail
        refine (writeByte_any _ _ (E ++ [37]) _ _ hb4 (by simp; omega) (by omega)).mono ?_
        rintro e w5 ⟨rfl, hb5, hbel5, _⟩
        have h5s := hbel5.size
        go_wp2_with fail
        refine (writeByte_any _ _ _ _ _ hb5 (by simp; omega) (by omega)).mono ?_
        rintro e w6 ⟨rfl, hb6, hbel6, _⟩
        have h6s := hbel6.size
        go_wp2
        go_roundw
        case rel =>
          refine ⟨k + 1, by omega, by go_num, ?_, ?_, by omega, ?_⟩
          · rw [HE.out, enc1_yes _ _ (by rw [← bit_in _ _ (by omega), HM.out]; exact hbit)]
            rw [tab_hex, tab_hex] at hb6
            simpa using hb6
          · exact (hbel6.block _ (by omega)).trans ((hbel5.block _ (by omega)).trans ((hbel4.block _ (by omega)).trans ((hb3.block _ (by omega)).trans HM2.out)))
          · exact ((hbel.trans (hb3.mono hbel.size)).trans (hbel4.mono (by have := hbel.size; omega))).trans ((hbel5.mono (by have := hbel.size; omega)).trans (hbel6.mono (by have := hbel.size; omega)))
        case measure => simp [intOf]; omega
      · have hbit : bitAt (m0, m1, m2, m3) t[k].toNat = false := by rw [← HM.out, bit_in _ _ (t[k].toNat_lt)]; simpa using hin
        clear hin
        have hu := t[k].toNat_lt
        go_wp2_with (go_at_call 87; refine (has_any m0 m1 m2 m3 _ (by omega) HOK.out _).mono ?_; rintro e w3 ⟨rfl, hb3⟩)
        have HB4 := Lib.hid (hb.later hb3)
        have h3s := hb3.size
        have HE := Lib.hid (enc_step s t k hlt)
        generalize enc s (t.data.toList.take k) = E at *
        refine (writeByte_any _ _ E _ _ HB4.out (by omega) (by omega)).mono ?_
        rintro e w4 ⟨rfl, hb4, hbel4, _⟩
        have h4s := hbel4.size
        go_wp2
        go_roundw
        case rel =>
          refine ⟨k + 1, by omega, by go_num, ?_, ?_, by omega, ?_⟩
          · rw [HE.out, enc1_no _ _ (by rw [← bit_in _ _ (by omega), HM.out, hbit]; simp)]
            exact hb4
          · exact (hbel4.block _ (by omega)).trans ((hb3.block _ (by omega)).trans HM2.out)
          · exact (hbel.trans (hb3.mono hbel.size)).trans (hbel4.mono (by have := hbel.size; omega))
        case measure => simp [intOf]; omega
    · have HF := Lib.hid (show enc s (t.data.toList.take k) = enc s t.data.toList by rw [List.take_of_length_le (by simp; omega)])
      have hs2 := hbel.size
      clear hm
      go_wp2_with (go_at_call 27; refine (string_any _ _ _ _ hb (by omega)).mono ?_; rintro e w3 ⟨rfl, hbel3⟩)
      go_ret2
      exact ⟨by rw [← HF.out]; rfl, hbel.trans (hbel3.mono (by omega))⟩
end Go.Proofs.YtikdncmgppckfaaDoor
