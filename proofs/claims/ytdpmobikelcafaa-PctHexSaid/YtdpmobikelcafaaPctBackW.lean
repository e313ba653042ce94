/-
  The walks of bastionlaw01.PctBack and PctJoins: they answer true for every texts of at most 1048576 bytes and every set byte, and change nothing that was there.
-/
import Derived.Test.YtdpmobikelcafaaPctEnc
import Derived.Test.YtdpmobikelcafaaLive1
namespace Go.Proofs.Ytdpmobikelcafaa
open Go.RowKit M
theorem encode_is (t : ByteArray) (L : List UInt8) (s : Nat) (hL : enc s t.data.toList = L) (ht : 3 * t.size ≤ 140737488355328) (h1 : 1 ≤ s) (h8 : s ≤ 8) (w : World) :
    Calls Try.prog 17 #[.string t, .int .u8 s] w fun e w' => e = .returned (.tuple #[.string ⟨L.toArray⟩, .int .i64 0]) ∧ Below w.heap.size w w' :=
  (encode_any t ht s h1 h8 w).mono fun _ _ ⟨h, hb⟩ => ⟨by rw [h, ← hL], hb⟩
theorem decode_is (t : ByteArray) (L : List UInt8) (hL : dec t.data.toList = L) (ht : t.size ≤ 140737488355328) (w : World) :
    Calls Try.prog 22 #[.string t] w fun e w' => e = .returned (.string ⟨L.toArray⟩) ∧ Below w.heap.size w w' :=
  (decode_any t ht w).mono fun _ _ ⟨h, hb⟩ => ⟨by rw [h, ← hL], hb⟩
theorem in_is (s b : Nat) (r : Bool) (hr : inB s b = r) (hs : s < 256) (hb : b < 256) (w : World) : Calls Try.prog 20 #[.int .u8 s, .int .u8 b] w fun e w' => e = .returned (.bool r) ∧ Below w.heap.size w w' :=
  (in_any s b hs hb w).mono fun _ _ ⟨h, hb⟩ => ⟨by rw [h, ← hr], hb⟩
/-- the loop over what is encoded -/
theorem in_int (s b : Nat) (n : Int) (r : Bool) (hn : n = b) (hr : inB s b = r) (hs : s < 256) (hb : b < 256) (w : World) : Calls Try.prog 20 #[.int .u8 s, .int .u8 n] w fun e w' => e = .returned (.bool r) ∧ Below w.heap.size w w' := by
  subst hn; exact in_is s b r hr hs hb w
set_option maxHeartbeats 1000000 in
theorem PctBack_walk (t : ByteArray) (ht : t.size ≤ 1048576) (s0 : Int) (hs0 : (Lit.int .u8 s0).wf = true) (w : World) :
    Calls Try.prog 5 #[.string t, .int .u8 s0] w fun e w' => e = .returned (.bool true) ∧ Below w.heap.size w w' := by
  have hy : 0 ≤ s0 ∧ s0 ≤ 255 := by simpa [Lit.wf, IntKind.min, IntKind.max, IntKind.signed, IntKind.bits] using hs0
  obtain ⟨s, rfl⟩ := Int.eq_ofNat_of_zero_le hy.1
  have hs : s < 256 := by omega
  clear hs0 hy
  have n := Nat.le_refl w.heap.size
  by_cases hbad : s = 0 ∨ 9 ≤ s
  · go_enter Try.func5, Try.ntmps5
    go_wp2_with fail
    refine (lives_any _).mono ?_
    rintro e w1 ⟨rfl, hb1⟩
    go_wp2_with fail
    refine (encode_bad t s hs hbad _).mono ?_
    rintro e w2 ⟨rfl, rfl⟩
    go_wp2
    go_ret
    exact ⟨rfl, hb1⟩
  · have h1 : 1 ≤ s := by omega
    have h8 : s ≤ 8 := by omega
    clear hbad
    obtain ⟨X, HX⟩ : ∃ X, Hid (enc s t.data.toList = X) := ⟨_, Lib.hid rfl⟩
    obtain ⟨Y, HY⟩ : ∃ Y, Hid (enc s X = Y) := ⟨_, Lib.hid rfl⟩
    obtain ⟨D, HD⟩ : ∃ D, Hid (dec X = D) := ⟨_, Lib.hid rfl⟩
    obtain ⟨E, HE⟩ : ∃ E, Hid (dec t.data.toList = E) := ⟨_, Lib.hid rfl⟩
    have hXl : X.length ≤ 3 * t.size := by rw [← HX.out]; have := enc_len s t.data.toList; simpa using this
    have HM := Lib.hid (show ∀ c ∈ X, c = 37 ∨ inB s c.toNat = false by rw [← HX.out]; exact enc_mem s _)
    cases h37 : inB s 37 with
    | true =>
      have HDt := Lib.hid (show D = t.data.toList by rw [← HD.out, ← HX.out]; exact dec_enc_sign s h37 _)
      have hDt : D == t.toList := by rw [HDt.out, ByteArray.toList_eq]; simp
      have H37 := Lib.hid h37
      clear h37
      go_enter Try.func5, Try.ntmps5
      go_wp2_with fail
      refine (lives_any _).mono ?_
      rintro e w1 ⟨rfl, hb1⟩
      go_wp2_with fail
      refine (encode_is t X s HX.out (by omega) h1 h8 _).mono ?_
      rintro e w2 ⟨rfl, hb2⟩
      go_wp2_with fail
      refine (encode_is ⟨X.toArray⟩ Y s HY.out (by show 3 * X.length ≤ _; omega) h1 h8 _).mono ?_
      rintro e w3 ⟨rfl, hb3⟩
      go_wp2_with fail
      refine (in_int s 37 37 true rfl H37.out hs (by omega) _).mono ?_
      rintro e w4 ⟨rfl, hb4⟩
      go_wp2_with fail
      refine (decode_is ⟨X.toArray⟩ D HD.out (by show X.length ≤ _; omega) _).mono ?_
      rintro e w5 ⟨rfl, hb5⟩
      have hbel := bel (bel (bel (bel hb1 hb2 n) hb3 n) hb4 n) hb5 n
      clear hb1 hb2 hb3 hb4 hb5 n
      go_wp2_with fail
      go_loopw [10] (fun i wr => ∃ k : Nat, k ≤ X.length ∧ i = .int .i64 k ∧ Below w.heap.size w wr) (fun i _ => X.length - (intOf i).toNat)
      case atStart => exact ⟨0, by omega, rfl, hbel⟩
      case round =>
        clear hbel
        obtain ⟨k, hk, rfl, hbel⟩ := hrel
        by_cases hlt : k < X.length
        · have hm : (⟨X.toArray⟩ : ByteArray)[k]'hlt = 37 ∨ inB s ((⟨X.toArray⟩ : ByteArray)[k]'hlt).toNat = false := HM.out (⟨X.toArray⟩ : ByteArray).data.toList[k] (List.getElem_mem hlt)
          by_cases he : (⟨X.toArray⟩ : ByteArray)[k]'hlt = 37
          · have z0 : ((((⟨X.toArray⟩ : ByteArray)[k]'hlt).toNat : Int) != 37) = false := by rw [he]; rfl
            clear he hm
            go_wp2
            go_roundw
            case rel => exact ⟨k + 1, by omega, by go_num, hbel⟩
            case measure => simp [intOf]; omega
          · have z0 : ((((⟨X.toArray⟩ : ByteArray)[k]'hlt).toNat : Int) != 37) = true := by
              rw [bne_iff_ne]; intro e; exact he (UInt8.toNat_inj.1 (by show _ = 37; omega))
            have HN := Lib.hid (hm.resolve_left he)
            have hu := ((⟨X.toArray⟩ : ByteArray)[k]'hlt).toNat_lt
            clear he hm
            go_wp2_with (go_at_call 20; refine (in_is s _ false HN.out hs (by omega) _).mono ?_; rintro e w6 ⟨rfl, hb6⟩)
            go_roundw
            case rel => exact ⟨k + 1, by omega, by go_num, hbel.trans (hb6.mono hbel.size)⟩
            case measure => simp [intOf]; omega
        · go_wp2
          go_ret
          exact ⟨rfl, hbel⟩
    | false =>
      have hYX : Y = X := by rw [← HY.out, ← HX.out]; exact enc_enc s h37 _
      subst hYX
      have hDE : E = D := by rw [← HD.out, ← HX.out, ← HE.out]; exact (dec_enc_none s h37 _ _ (Nat.le_refl _)).symm
      subst hDE
      have H37 := Lib.hid h37
      clear h37
      go_enter Try.func5, Try.ntmps5
      go_wp2_with fail
      refine (lives_any _).mono ?_
      rintro e w1 ⟨rfl, hb1⟩
      go_wp2_with fail
      refine (encode_is t Y s HX.out (by omega) h1 h8 _).mono ?_
      rintro e w2 ⟨rfl, hb2⟩
      go_wp2_with fail
      refine (encode_is ⟨Y.toArray⟩ Y s HY.out (by show 3 * Y.length ≤ _; omega) h1 h8 _).mono ?_
      rintro e w3 ⟨rfl, hb3⟩
      go_wp2_with fail
      refine (in_int s 37 37 false rfl H37.out hs (by omega) _).mono ?_
      rintro e w4 ⟨rfl, hb4⟩
      go_wp2_with fail
      refine (decode_is ⟨Y.toArray⟩ E HD.out (by show Y.length ≤ _; omega) _).mono ?_
      rintro e w5 ⟨rfl, hb5⟩
      go_wp2_with fail
      refine (decode_is t E HE.out (by omega) _).mono ?_
      rintro e w6 ⟨rfl, hb6⟩
      have hbel := bel (bel (bel (bel (bel hb1 hb2 n) hb3 n) hb4 n) hb5 n) hb6 n
      clear hb1 hb2 hb3 hb4 hb5 hb6 n
      go_wp2_with fail
      go_loopw [10] (fun i wr => ∃ k : Nat, k ≤ Y.length ∧ i = .int .i64 k ∧ Below w.heap.size w wr) (fun i _ => Y.length - (intOf i).toNat)
      case atStart => exact ⟨0, by omega, rfl, hbel⟩
      case round =>
        clear hbel
        obtain ⟨k, hk, rfl, hbel⟩ := hrel
        by_cases hlt : k < Y.length
        · have hm : (⟨Y.toArray⟩ : ByteArray)[k]'hlt = 37 ∨ inB s ((⟨Y.toArray⟩ : ByteArray)[k]'hlt).toNat = false := HM.out (⟨Y.toArray⟩ : ByteArray).data.toList[k] (List.getElem_mem hlt)
          by_cases he : (⟨Y.toArray⟩ : ByteArray)[k]'hlt = 37
          · have z0 : ((((⟨Y.toArray⟩ : ByteArray)[k]'hlt).toNat : Int) != 37) = false := by rw [he]; rfl
            clear he hm
            go_wp2
            go_roundw
            case rel => exact ⟨k + 1, by omega, by go_num, hbel⟩
            case measure => simp [intOf]; omega
          · have z0 : ((((⟨Y.toArray⟩ : ByteArray)[k]'hlt).toNat : Int) != 37) = true := by
              rw [bne_iff_ne]; intro e; exact he (UInt8.toNat_inj.1 (by show _ = 37; omega))
            have HN := Lib.hid (hm.resolve_left he)
            have hu := ((⟨Y.toArray⟩ : ByteArray)[k]'hlt).toNat_lt
            clear he hm
            go_wp2_with (go_at_call 20; refine (in_is s _ false HN.out hs (by omega) _).mono ?_; rintro e w7 ⟨rfl, hb7⟩)
            go_roundw
            case rel => exact ⟨k + 1, by omega, by go_num, hbel.trans (hb7.mono hbel.size)⟩
            case measure => simp [intOf]; omega
        · go_wp2
          go_ret
          exact ⟨rfl, hbel⟩
set_option maxHeartbeats 1000000 in
theorem PctJoins_walk (a : ByteArray) (ha : a.size ≤ 1048576) (b : ByteArray) (hb : b.size ≤ 1048576) (s0 : Int) (hs0 : (Lit.int .u8 s0).wf = true) (w : World) :
    Calls Try.prog 8 #[.string a, .string b, .int .u8 s0] w fun e w' => e = .returned (.bool true) ∧ Below w.heap.size w w' := by
  have hy : 0 ≤ s0 ∧ s0 ≤ 255 := by simpa [Lit.wf, IntKind.min, IntKind.max, IntKind.signed, IntKind.bits] using hs0
  obtain ⟨s, rfl⟩ := Int.eq_ofNat_of_zero_le hy.1
  have hs : s < 256 := by omega
  clear hs0 hy
  have n := Nat.le_refl w.heap.size
  have HAB := Lib.hid (show (a ++ b).size = a.size + b.size from ByteArray.size_append)
  by_cases hbad : s = 0 ∨ 9 ≤ s
  · go_enter Try.func8, Try.ntmps8
    go_wp2_with fail
    refine (lives_any _).mono ?_
    rintro e w1 ⟨rfl, hb1⟩
    go_wp2_with fail
    refine (encode_bad a s hs hbad _).mono ?_
    rintro e w2 ⟨rfl, rfl⟩
    go_wp2_with fail
    refine (encode_bad b s hs hbad _).mono ?_
    rintro e w2 ⟨rfl, rfl⟩
    go_wp2_with fail
    refine (encode_bad (a ++ b) s hs hbad _).mono ?_
    rintro e w2 ⟨rfl, rfl⟩
    go_wp2
    go_ret
    exact ⟨rfl, hb1⟩
  · have h1 : 1 ≤ s := by omega
    have h8 : s ≤ 8 := by omega
    clear hbad
    obtain ⟨X, HX⟩ : ∃ X, Hid (enc s a.data.toList = X) := ⟨_, Lib.hid rfl⟩
    obtain ⟨Y, HY⟩ : ∃ Y, Hid (enc s b.data.toList = Y) := ⟨_, Lib.hid rfl⟩
    have HZ := Lib.hid (show enc s (a ++ b).data.toList = X ++ Y by rw [ByteArray.data_append, Array.toList_append, enc_app, HX.out, HY.out])
    have hXl : X.length ≤ 3 * a.size := by rw [← HX.out]; have := enc_len s a.data.toList; simpa using this
    have hYl : Y.length ≤ 3 * b.size := by rw [← HY.out]; have := enc_len s b.data.toList; simpa using this
    have HC := Lib.hid (show X.length = a.size + 2 * cnt s a.data.toList by rw [← HX.out, enc_length]; simp)
    have hcl : cnt s a.data.toList ≤ a.size := by have := cnt_le s a.data.toList; simpa using this
    go_enter Try.func8, Try.ntmps8
    go_wp2_with fail
    refine (lives_any _).mono ?_
    rintro e w1 ⟨rfl, hb1⟩
    go_wp2_with fail
    refine (encode_is a X s HX.out (by omega) h1 h8 _).mono ?_
    rintro e w2 ⟨rfl, hb2⟩
    go_wp2_with fail
    refine (encode_is b Y s HY.out (by omega) h1 h8 _).mono ?_
    rintro e w3 ⟨rfl, hb3⟩
    go_wp2_with fail
    refine (encode_is (a ++ b) (X ++ Y) s HZ.out (by rw [HAB.out]; omega) h1 h8 _).mono ?_
    rintro e w4 ⟨rfl, hb4⟩
    have hbel := bel (bel (bel hb1 hb2 n) hb3 n) hb4 n
    clear hb1 hb2 hb3 hb4 n
    go_wp2_with fail
    go_loopw [13, 14] (fun m i wr => ∃ k c : Nat, k ≤ a.size ∧ i = .int .i64 k ∧ c ≤ k ∧ m = .int .i64 c ∧ Hid (c = cnt s (a.data.toList.take k)) ∧ Below w.heap.size w wr) (fun _ i _ => a.size - (intOf i).toNat)
    case atStart => exact ⟨0, 0, by omega, rfl, by omega, rfl, Lib.hid rfl, hbel⟩
    case round =>
      clear hbel
      obtain ⟨k, c, hk, rfl, hck, rfl, HK, hbel⟩ := hrel
      by_cases hlt : k < a.size
      · have hu := a[k].toNat_lt
        have HS := Lib.hid (show cnt s (a.data.toList.take (k + 1)) = c + if inB s a[k].toNat then 1 else 0 by
          rw [take_snoc _ _ (by simpa using hlt), cnt_snoc, ← HK.out]; rfl)
        cases hin : inB s a[k].toNat with
        | true =>
          have HI := Lib.hid hin
          clear hin
          go_wp2_with (go_at_call 20; refine (in_is s _ true HI.out hs (by omega) _).mono ?_; rintro e w6 ⟨rfl, hb6⟩)
          go_roundw
          case rel => exact ⟨k + 1, c + 1, by omega, by go_num, by omega, by go_num, Lib.hid (by rw [HS.out, HI.out]; rfl), hbel.trans (hb6.mono hbel.size)⟩
          case measure => simp [intOf]; omega
        | false =>
          have HI := Lib.hid hin
          clear hin
          go_wp2_with (go_at_call 20; refine (in_is s _ false HI.out hs (by omega) _).mono ?_; rintro e w6 ⟨rfl, hb6⟩)
          go_roundw
          case rel => exact ⟨k + 1, c, by omega, by go_num, by omega, rfl, Lib.hid (by rw [HS.out, HI.out]; rfl), hbel.trans (hb6.mono hbel.size)⟩
          case measure => simp [intOf]; omega
      · have hfin : ((X.length : Int) == (a.size : Int) + 2 * (c : Int)) = true := by
          rw [beq_iff_eq, HC.out, HK.out, List.take_of_length_le (by simp; omega)]; omega
        have hj : ((⟨X.toArray⟩ : ByteArray) ++ ⟨Y.toArray⟩).toList = X ++ Y := by rw [ByteArray.toList_eq, ByteArray.data_append]; simp
        go_wp2
        go_ret
        exact ⟨rfl, hbel⟩
end Go.Proofs.Ytdpmobikelcafaa
