import Derived.Test.YtbclodbneonipaaGreatUBM
namespace Go.Proofs.YtbclodbneonipaaGreat
open Go.RowKit
theorem wid_1 {b : Nat} (h : b < 128) : wid b = 1 := by unfold wid; rw [if_pos h]
theorem wid_0 {b : Nat} (h : (128 ≤ b ∧ b < 194) ∨ 245 ≤ b) : wid b = 0 := by unfold wid; (repeat' split) <;> omega
theorem wid_2 {b : Nat} (h1 : 194 ≤ b) (h2 : b < 224) : wid b = 2 := by unfold wid; (repeat' split) <;> omega
theorem wid_3 {b : Nat} (h1 : 224 ≤ b) (h2 : b < 240) : wid b = 3 := by unfold wid; (repeat' split) <;> omega
theorem wid_4 {b : Nat} (h1 : 240 ≤ b) (h2 : b < 245) : wid b = 4 := by unfold wid; (repeat' split) <;> omega
theorem begun_is (b n : Nat) (hn : wid b = n) (hb : b < 256) (w : World) : Calls Tryz.prog 128 #[.int .u8 b] w fun e w' => e = .returned (.int .i64 n) ∧ w = w' := by
  rw [← hn]; exact begun_any b hb w
theorem second_is (b lo hi : Nat) (hl : slo b = lo) (hh : shi b = hi) (hb : b < 256) (w : World) : Calls Tryz.prog 129 #[.int .u8 b] w fun e w' => e = .returned (.tuple #[.int .u8 lo, .int .u8 hi]) ∧ w = w' := by
  rw [← hl, ← hh]; exact second_any b hb w
set_option maxRecDepth 20000 in
set_option maxHeartbeats 1000000 in
theorem first_1 (u : ByteArray) (h0 : 0 < u.size) (hb : u[0].toNat < 128) (w : World) :
    Calls Tryz.prog 122 #[.string u] w fun e w' => e = .returned (.tuple #[.int .i32 (u[0].toNat : Nat), .int .i64 1]) ∧ w = w' := by
  have hc := u[0].toNat_lt
  have HW := Lib.hid (wid_1 hb)
  go_enter Tryz.func122, Tryz.ntmps122
  go_wp2_with fail
  refine (begun_is u[0].toNat 1 HW.out hc _).mono ?_
  rintro e w' ⟨rfl, rfl⟩
  go_wp2
  go_ret2
  exact ⟨rfl, rfl⟩
set_option maxRecDepth 20000 in
set_option maxHeartbeats 1000000 in
theorem first_0 (u : ByteArray) (h0 : 0 < u.size) (hb : (128 ≤ u[0].toNat ∧ u[0].toNat < 194) ∨ 245 ≤ u[0].toNat) (w : World) :
    Calls Tryz.prog 122 #[.string u] w fun e w' => e = .returned (.tuple #[.int .i32 65533, .int .i64 1]) ∧ w = w' := by
  have hc := u[0].toNat_lt
  have HW := Lib.hid (wid_0 hb)
  clear hb
  go_enter Tryz.func122, Tryz.ntmps122
  go_wp2_with fail
  refine (begun_is u[0].toNat 0 HW.out hc _).mono ?_
  rintro e w' ⟨rfl, rfl⟩
  go_wp2
  go_ret2
  exact ⟨rfl, rfl⟩
theorem slo_b (b : Nat) : 128 ≤ slo b := by unfold slo; (repeat' split) <;> omega
theorem shi_b (b : Nat) : shi b ≤ 191 := by unfold shi; (repeat' split) <;> omega
theorem list_cons (u : ByteArray) (h : 0 < u.size) : u.data.toList = u[0] :: u.data.toList.drop 1 := by
  have := drop_cons u 0 h
  rw [List.drop_zero] at this
  exact this
theorem ret_ii {a b c d : Int} (h : a = b) (h2 : c = d) : Ending.returned (.tuple #[.int .i32 a, .int .i64 c]) = Ending.returned (.tuple #[.int .i32 b, .int .i64 d]) := by rw [h, h2]
theorem start_2 (u : ByteArray) (h0 : 0 < u.size) (h1 : 194 ≤ u[0].toNat) (h2 : u[0].toNat < 224) : U.fst1 u.data.toList = ((U.cont 1 (u[0].toNat % 32) (slo u[0].toNat) (shi u[0].toNat) (u.data.toList.drop 1)).1, (U.cont 1 (u[0].toNat % 32) (slo u[0].toNat) (shi u[0].toNat) (u.data.toList.drop 1)).2 + 1) := by
  have e := U.lead2 u[0].toNat h2 h1
  have es : slo u[0].toNat = 128 := by unfold slo; (repeat' split) <;> omega
  have eh : shi u[0].toNat = 191 := by unfold shi; (repeat' split) <;> omega
  rw [es, eh, show u[0].toNat % 32 = u[0].toNat - 192 by omega]
  conv => lhs; rw [list_cons u h0]
  exact U.fst1_of e
theorem start_3 (u : ByteArray) (h0 : 0 < u.size) (h1 : 224 ≤ u[0].toNat) (h2 : u[0].toNat < 240) : U.fst1 u.data.toList = ((U.cont 2 (u[0].toNat % 16) (slo u[0].toNat) (shi u[0].toNat) (u.data.toList.drop 1)).1, (U.cont 2 (u[0].toNat % 16) (slo u[0].toNat) (shi u[0].toNat) (u.data.toList.drop 1)).2 + 1) := by
  have e := U.lead3 u[0].toNat h2 h1
  have es : slo u[0].toNat = if u[0].toNat = 224 then 160 else 128 := by unfold slo; (repeat' split) <;> omega
  have eh : shi u[0].toNat = if u[0].toNat = 237 then 159 else 191 := by unfold shi; (repeat' split) <;> omega
  rw [es, eh, show u[0].toNat % 16 = u[0].toNat - 224 by omega]
  conv => lhs; rw [list_cons u h0]
  exact U.fst1_of e
theorem start_4 (u : ByteArray) (h0 : 0 < u.size) (h1 : 240 ≤ u[0].toNat) (h2 : u[0].toNat < 245) : U.fst1 u.data.toList = ((U.cont 3 (u[0].toNat % 8) (slo u[0].toNat) (shi u[0].toNat) (u.data.toList.drop 1)).1, (U.cont 3 (u[0].toNat % 8) (slo u[0].toNat) (shi u[0].toNat) (u.data.toList.drop 1)).2 + 1) := by
  have e := U.lead4 u[0].toNat h2 h1
  have es : slo u[0].toNat = if u[0].toNat = 240 then 144 else 128 := by unfold slo; (repeat' split) <;> omega
  have eh : shi u[0].toNat = if u[0].toNat = 244 then 143 else 191 := by unfold shi; (repeat' split) <;> omega
  rw [es, eh, show u[0].toNat % 8 = u[0].toNat - 240 by omega]
  conv => lhs; rw [list_cons u h0]
  exact U.fst1_of e
theorem pair_fst {p : Nat × Nat} {a b : Nat} (h : p = (a, b)) : p.1 = a := by rw [h]
theorem pair_snd {p : Nat × Nat} {a b : Nat} (h : p = (a, b)) : p.2 = b := by rw [h]
theorem stop_nil {l r lo hi k : Nat} {t : List UInt8} {p : Nat × Nat} (h : p = ((U.cont l r lo hi t).1, (U.cont l r lo hi t).2 + k)) (hl : 0 < l) (ht : t = []) : p = (65533, k) := by
  obtain ⟨n, rfl⟩ : ∃ n, l = n + 1 := ⟨l - 1, by omega⟩
  subst ht
  rw [U.cont_nil] at h
  rw [h]; dsimp only; rw [Nat.zero_add]; rfl
theorem stop_out {l r lo hi k : Nat} {c : UInt8} {t t' : List UInt8} {p : Nat × Nat} (h : p = ((U.cont l r lo hi t).1, (U.cont l r lo hi t).2 + k)) (hl : 0 < l) (ht : t = c :: t') (hc : ¬ (lo ≤ c.toNat ∧ c.toNat ≤ hi)) : p = (65533, k) := by
  obtain ⟨n, rfl⟩ : ∃ n, l = n + 1 := ⟨l - 1, by omega⟩
  subst ht
  rw [U.cont_out hc] at h
  rw [h]; dsimp only; rw [Nat.zero_add]; rfl
theorem goes_on {l l' r r' lo hi k : Nat} {c : UInt8} {t t' : List UInt8} {p : Nat × Nat} (h : p = ((U.cont l r lo hi t).1, (U.cont l r lo hi t).2 + k)) (hl : l = l' + 1) (ht : t = c :: t') (hc : lo ≤ c.toNat ∧ c.toNat ≤ hi) (hr : r' = 64 * r + (c.toNat - 128)) : p = ((U.cont l' r' 128 191 t').1, (U.cont l' r' 128 191 t').2 + (k + 1)) := by
  rw [hl, ht, U.cont_in hc, ← hr] at h
  rw [h]
  dsimp only
  rw [Nat.add_assoc, Nat.add_comm 1 k]
theorem fin_all {l r lo hi k : Nat} {t : List UInt8} {p : Nat × Nat} (h : p = ((U.cont l r lo hi t).1, (U.cont l r lo hi t).2 + k)) (hl : l = 0) : p = (r, k) := by
  subst hl
  rw [U.cont_zero] at h
  rw [h]; simp
theorem or_cont (rr c : Nat) (hr : rr < 131072) (h1 : 128 ≤ c) (h2 : c ≤ 191) : bits BinOp.or IntKind.i32 ((rr : Int) * 64) (bits BinOp.and IntKind.u8 (c : Int) 63) = ((64 * rr + (c - 128) : Nat) : Int) := by
  have e : bits BinOp.and IntKind.u8 (c : Int) 63 = ((c % 64 : Nat) : Int) := by
    have h3 : (BitVec.ofInt 8 (c : Int)).toNat = c := by rw [BitVec.ofInt_natCast, BitVec.toNat_ofNat]; exact Nat.mod_eq_of_lt (by omega)
    show IntKind.u8.wrap ((BitVec.ofInt 8 (c : Int) &&& BitVec.ofInt 8 63).toNat : Int) = _
    rw [BitVec.toNat_and, h3, show (BitVec.ofInt 8 63).toNat = 63 by decide, nat_mask6, IntKind.wrap_u8]; omega
  have h24 : rr < 2 ^ 24 := Nat.lt_trans hr (by decide)
  rw [e, or_low rr (c % 64) h24 (by omega), show c % 64 = c - 128 by omega]
theorem U.lead_none (b : Nat) (h : (128 ≤ b ∧ b < 194) ∨ 245 ≤ b) : U.lead b = none := by
  unfold U.lead
  (repeat' split) <;> first | rfl | omega
set_option maxRecDepth 20000 in
set_option maxHeartbeats 2000000 in
theorem first_2 (u : ByteArray) (hu : u.size ≤ maxLen) (h0 : 0 < u.size) (hb1 : 194 ≤ u[0].toNat) (hb2 : u[0].toNat < 224) (w : World) :
    Calls Tryz.prog 122 #[.string u] w fun e w' => e = .returned (.tuple #[.int .i32 (U.fst1 u.data.toList).1, .int .i64 (U.fst1 u.data.toList).2]) ∧ ∃ m, w' = w.drewN m := by
  unfold maxLen at hu
  have hc := u[0].toNat_lt
  have HW := Lib.hid (wid_2 hb1 hb2)
  have HA := Lib.hid (and_mask u[0].toNat 5 31 rfl (by omega) (by omega))
  have HS := Lib.hid (start_2 u h0 hb1 hb2)
  go_enter Tryz.func122, Tryz.ntmps122
  go_wp2_with fail
  refine (begun_is u[0].toNat 2 HW.out hc _).mono ?_
  rintro e w' ⟨rfl, rfl⟩
  go_wp2_with fail
  go_quiet (fail)
  go_wp2_with fail
  refine (second_is u[0].toNat _ _ rfl rfl hc _).mono ?_
  rintro e w' ⟨rfl, rfl⟩
  go_wp2_with fail
  clear hb1 hb2
  go_loopw [5, 6, 7, 8] (fun r lo hi n wr => ∃ (k rr lo' hi' : Nat), 1 ≤ k ∧ k ≤ 2 ∧ k ≤ u.size ∧ r = .int .i32 rr ∧ lo = .int .u8 lo' ∧ hi = .int .u8 hi' ∧ n = .int .i64 k ∧ 128 ≤ lo' ∧ hi' ≤ 191 ∧ lo' ≤ 255 ∧ Hid (rr < 32 ∨ (2 ≤ k ∧ rr < 2048) ∨ (3 ≤ k ∧ rr < 131072) ∨ 4 ≤ k) ∧ Hid (U.fst1 u.data.toList = ((U.cont (2 - k) rr lo' hi' (u.data.toList.drop k)).1, (U.cont (2 - k) rr lo' hi' (u.data.toList.drop k)).2 + k)) ∧ ∃ m, wr = w.drewN m) (fun _ _ _ n _ => 2 - (intOf n).toNat)
  case atStart => 
    refine ⟨1, u[0].toNat % 32, slo u[0].toNat, shi u[0].toNat, by omega, by omega, by omega, ?_, rfl, rfl, rfl, slo_b _, shi_b _, ?_, Lib.hid (by omega), HS, ?_⟩
    · exact congrArg _ HA.out
    · unfold slo; (repeat' split) <;> omega
    · exact ⟨_, rfl⟩
  case round =>
    obtain ⟨k, rr, lo, hi, hk1, hkW, hku, rfl, rfl, rfl, rfl, hl, hh, hl2, HB, HF, m, rfl⟩ := hrel
    by_cases hkl : k < 2
    · have hrr : rr < 131072 := by have := HB.out; omega
      by_cases he : k = u.size
      · have HZ := Lib.hid (stop_nil HF.out (by omega) (List.drop_of_length_le (by simp; omega)))
        have he2 : (k : Int) = (u.size : Int) := by omega
        go_wp2
        go_ret2
        exact ⟨ret_ii (by rw [pair_fst HZ.out]; rfl) (by rw [pair_snd HZ.out]), _, rfl⟩
      · have hks : k < u.size := by omega
        have be : ((k : Int) == (u.size : Int)) = false := by rw [beq_eq_false_iff_ne]; omega
        have HD := Lib.hid (drop_cons u k hks)
        have hcc := u[k].toNat_lt
        by_cases hin : lo ≤ u[k].toNat ∧ u[k].toNat ≤ hi
        · have HV := Lib.hid (or_cont rr u[k].toNat hrr (by omega) (by omega))
          have HN := Lib.hid (goes_on (l' := 2 - (k + 1)) HF.out (by omega) HD.out hin rfl)
          have bl : decide ((u[k].toNat : Int) < (lo : Int)) = false := decide_eq_false (by omega)
          have bh : decide ((hi : Int) < (u[k].toNat : Int)) = false := decide_eq_false (by omega)
          obtain ⟨hin1, hin2⟩ := hin
          go_wp2_with fail
          refine ⟨⟨k + 1, _, 128, 191, by omega, by omega, by omega, ?_, rfl, rfl, by go_num, by omega, by omega, by omega, ?_, HN, m, rfl⟩, by simp [intOf]; omega⟩
          · exact congrArg _ (by omega)
          · exact Lib.hid (by have := HB.out; omega)
        · have HZ := Lib.hid (stop_out HF.out (by omega) HD.out hin)
          by_cases hlo : u[k].toNat < lo
          · clear hin
            have bl : decide ((u[k].toNat : Int) < (lo : Int)) = true := decide_eq_true (by omega)
            go_wp2
            go_ret2
            exact ⟨ret_ii (by rw [pair_fst HZ.out]; rfl) (by rw [pair_snd HZ.out]), _, rfl⟩
          · have hhi : hi < u[k].toNat := by omega
            clear hin
            have bl : decide ((u[k].toNat : Int) < (lo : Int)) = false := decide_eq_false (by omega)
            have bh : decide ((hi : Int) < (u[k].toNat : Int)) = true := decide_eq_true (by omega)
            go_wp2
            go_ret2
            exact ⟨ret_ii (by rw [pair_fst HZ.out]; rfl) (by rw [pair_snd HZ.out]), _, rfl⟩
    · have HZ := Lib.hid (fin_all HF.out (by omega))
      go_wp2
      go_ret2
      exact ⟨ret_ii (by rw [pair_fst HZ.out]) (by rw [pair_snd HZ.out]; omega), _, rfl⟩
set_option maxRecDepth 20000 in
set_option maxHeartbeats 2000000 in
theorem first_3 (u : ByteArray) (hu : u.size ≤ maxLen) (h0 : 0 < u.size) (hb1 : 224 ≤ u[0].toNat) (hb2 : u[0].toNat < 240) (w : World) :
    Calls Tryz.prog 122 #[.string u] w fun e w' => e = .returned (.tuple #[.int .i32 (U.fst1 u.data.toList).1, .int .i64 (U.fst1 u.data.toList).2]) ∧ ∃ m, w' = w.drewN m := by
  unfold maxLen at hu
  have hc := u[0].toNat_lt
  have HW := Lib.hid (wid_3 hb1 hb2)
  have HA := Lib.hid (and_mask u[0].toNat 4 15 rfl (by omega) (by omega))
  have HS := Lib.hid (start_3 u h0 hb1 hb2)
  go_enter Tryz.func122, Tryz.ntmps122
  go_wp2_with fail
  refine (begun_is u[0].toNat 3 HW.out hc _).mono ?_
  rintro e w' ⟨rfl, rfl⟩
  go_wp2_with fail
  go_quiet (fail)
  go_wp2_with fail
  refine (second_is u[0].toNat _ _ rfl rfl hc _).mono ?_
  rintro e w' ⟨rfl, rfl⟩
  go_wp2_with fail
  clear hb1 hb2
  go_loopw [5, 6, 7, 8] (fun r lo hi n wr => ∃ (k rr lo' hi' : Nat), 1 ≤ k ∧ k ≤ 3 ∧ k ≤ u.size ∧ r = .int .i32 rr ∧ lo = .int .u8 lo' ∧ hi = .int .u8 hi' ∧ n = .int .i64 k ∧ 128 ≤ lo' ∧ hi' ≤ 191 ∧ lo' ≤ 255 ∧ Hid (rr < 32 ∨ (2 ≤ k ∧ rr < 2048) ∨ (3 ≤ k ∧ rr < 131072) ∨ 4 ≤ k) ∧ Hid (U.fst1 u.data.toList = ((U.cont (3 - k) rr lo' hi' (u.data.toList.drop k)).1, (U.cont (3 - k) rr lo' hi' (u.data.toList.drop k)).2 + k)) ∧ ∃ m, wr = w.drewN m) (fun _ _ _ n _ => 3 - (intOf n).toNat)
  case atStart => 
    refine ⟨1, u[0].toNat % 16, slo u[0].toNat, shi u[0].toNat, by omega, by omega, by omega, ?_, rfl, rfl, rfl, slo_b _, shi_b _, ?_, Lib.hid (by omega), HS, ?_⟩
    · exact congrArg _ HA.out
    · unfold slo; (repeat' split) <;> omega
    · exact ⟨_, rfl⟩
  case round =>
    obtain ⟨k, rr, lo, hi, hk1, hkW, hku, rfl, rfl, rfl, rfl, hl, hh, hl2, HB, HF, m, rfl⟩ := hrel
    by_cases hkl : k < 3
    · have hrr : rr < 131072 := by have := HB.out; omega
      by_cases he : k = u.size
      · have HZ := Lib.hid (stop_nil HF.out (by omega) (List.drop_of_length_le (by simp; omega)))
        have he2 : (k : Int) = (u.size : Int) := by omega
        go_wp2
        go_ret2
        exact ⟨ret_ii (by rw [pair_fst HZ.out]; rfl) (by rw [pair_snd HZ.out]), _, rfl⟩
      · have hks : k < u.size := by omega
        have be : ((k : Int) == (u.size : Int)) = false := by rw [beq_eq_false_iff_ne]; omega
        have HD := Lib.hid (drop_cons u k hks)
        have hcc := u[k].toNat_lt
        by_cases hin : lo ≤ u[k].toNat ∧ u[k].toNat ≤ hi
        · have HV := Lib.hid (or_cont rr u[k].toNat hrr (by omega) (by omega))
          have HN := Lib.hid (goes_on (l' := 3 - (k + 1)) HF.out (by omega) HD.out hin rfl)
          have bl : decide ((u[k].toNat : Int) < (lo : Int)) = false := decide_eq_false (by omega)
          have bh : decide ((hi : Int) < (u[k].toNat : Int)) = false := decide_eq_false (by omega)
          obtain ⟨hin1, hin2⟩ := hin
          go_wp2_with fail
          refine ⟨⟨k + 1, _, 128, 191, by omega, by omega, by omega, ?_, rfl, rfl, by go_num, by omega, by omega, by omega, ?_, HN, m, rfl⟩, by simp [intOf]; omega⟩
          · exact congrArg _ (by omega)
          · exact Lib.hid (by have := HB.out; omega)
        · have HZ := Lib.hid (stop_out HF.out (by omega) HD.out hin)
          by_cases hlo : u[k].toNat < lo
          · clear hin
            have bl : decide ((u[k].toNat : Int) < (lo : Int)) = true := decide_eq_true (by omega)
            go_wp2
            go_ret2
            exact ⟨ret_ii (by rw [pair_fst HZ.out]; rfl) (by rw [pair_snd HZ.out]), _, rfl⟩
          · have hhi : hi < u[k].toNat := by omega
            clear hin
            have bl : decide ((u[k].toNat : Int) < (lo : Int)) = false := decide_eq_false (by omega)
            have bh : decide ((hi : Int) < (u[k].toNat : Int)) = true := decide_eq_true (by omega)
            go_wp2
            go_ret2
            exact ⟨ret_ii (by rw [pair_fst HZ.out]; rfl) (by rw [pair_snd HZ.out]), _, rfl⟩
    · have HZ := Lib.hid (fin_all HF.out (by omega))
      go_wp2
      go_ret2
      exact ⟨ret_ii (by rw [pair_fst HZ.out]) (by rw [pair_snd HZ.out]; omega), _, rfl⟩
set_option maxRecDepth 20000 in
set_option maxHeartbeats 2000000 in
theorem first_4 (u : ByteArray) (hu : u.size ≤ maxLen) (h0 : 0 < u.size) (hb1 : 240 ≤ u[0].toNat) (hb2 : u[0].toNat < 245) (w : World) :
    Calls Tryz.prog 122 #[.string u] w fun e w' => e = .returned (.tuple #[.int .i32 (U.fst1 u.data.toList).1, .int .i64 (U.fst1 u.data.toList).2]) ∧ ∃ m, w' = w.drewN m := by
  unfold maxLen at hu
  have hc := u[0].toNat_lt
  have HW := Lib.hid (wid_4 hb1 hb2)
  have HA := Lib.hid (and_mask u[0].toNat 3 7 rfl (by omega) (by omega))
  have HS := Lib.hid (start_4 u h0 hb1 hb2)
  go_enter Tryz.func122, Tryz.ntmps122
  go_wp2_with fail
  refine (begun_is u[0].toNat 4 HW.out hc _).mono ?_
  rintro e w' ⟨rfl, rfl⟩
  go_wp2_with fail
  go_quiet (fail)
  go_wp2_with fail
  refine (second_is u[0].toNat _ _ rfl rfl hc _).mono ?_
  rintro e w' ⟨rfl, rfl⟩
  go_wp2_with fail
  clear hb1 hb2
  go_loopw [5, 6, 7, 8] (fun r lo hi n wr => ∃ (k rr lo' hi' : Nat), 1 ≤ k ∧ k ≤ 4 ∧ k ≤ u.size ∧ r = .int .i32 rr ∧ lo = .int .u8 lo' ∧ hi = .int .u8 hi' ∧ n = .int .i64 k ∧ 128 ≤ lo' ∧ hi' ≤ 191 ∧ lo' ≤ 255 ∧ Hid (rr < 32 ∨ (2 ≤ k ∧ rr < 2048) ∨ (3 ≤ k ∧ rr < 131072) ∨ 4 ≤ k) ∧ Hid (U.fst1 u.data.toList = ((U.cont (4 - k) rr lo' hi' (u.data.toList.drop k)).1, (U.cont (4 - k) rr lo' hi' (u.data.toList.drop k)).2 + k)) ∧ ∃ m, wr = w.drewN m) (fun _ _ _ n _ => 4 - (intOf n).toNat)
  case atStart => 
    refine ⟨1, u[0].toNat % 8, slo u[0].toNat, shi u[0].toNat, by omega, by omega, by omega, ?_, rfl, rfl, rfl, slo_b _, shi_b _, ?_, Lib.hid (by omega), HS, ?_⟩
    · exact congrArg _ HA.out
    · unfold slo; (repeat' split) <;> omega
    · exact ⟨_, rfl⟩
  case round =>
    obtain ⟨k, rr, lo, hi, hk1, hkW, hku, rfl, rfl, rfl, rfl, hl, hh, hl2, HB, HF, m, rfl⟩ := hrel
    by_cases hkl : k < 4
    · have hrr : rr < 131072 := by have := HB.out; omega
      by_cases he : k = u.size
      · have HZ := Lib.hid (stop_nil HF.out (by omega) (List.drop_of_length_le (by simp; omega)))
        have he2 : (k : Int) = (u.size : Int) := by omega
        go_wp2
        go_ret2
        exact ⟨ret_ii (by rw [pair_fst HZ.out]; rfl) (by rw [pair_snd HZ.out]), _, rfl⟩
      · have hks : k < u.size := by omega
        have be : ((k : Int) == (u.size : Int)) = false := by rw [beq_eq_false_iff_ne]; omega
        have HD := Lib.hid (drop_cons u k hks)
        have hcc := u[k].toNat_lt
        by_cases hin : lo ≤ u[k].toNat ∧ u[k].toNat ≤ hi
        · have HV := Lib.hid (or_cont rr u[k].toNat hrr (by omega) (by omega))
          have HN := Lib.hid (goes_on (l' := 4 - (k + 1)) HF.out (by omega) HD.out hin rfl)
          have bl : decide ((u[k].toNat : Int) < (lo : Int)) = false := decide_eq_false (by omega)
          have bh : decide ((hi : Int) < (u[k].toNat : Int)) = false := decide_eq_false (by omega)
          obtain ⟨hin1, hin2⟩ := hin
          go_wp2_with fail
          refine ⟨⟨k + 1, _, 128, 191, by omega, by omega, by omega, ?_, rfl, rfl, by go_num, by omega, by omega, by omega, ?_, HN, m, rfl⟩, by simp [intOf]; omega⟩
          · exact congrArg _ (by omega)
          · exact Lib.hid (by have := HB.out; omega)
        · have HZ := Lib.hid (stop_out HF.out (by omega) HD.out hin)
          by_cases hlo : u[k].toNat < lo
          · clear hin
            have bl : decide ((u[k].toNat : Int) < (lo : Int)) = true := decide_eq_true (by omega)
            go_wp2
            go_ret2
            exact ⟨ret_ii (by rw [pair_fst HZ.out]; rfl) (by rw [pair_snd HZ.out]), _, rfl⟩
          · have hhi : hi < u[k].toNat := by omega
            clear hin
            have bl : decide ((u[k].toNat : Int) < (lo : Int)) = false := decide_eq_false (by omega)
            have bh : decide ((hi : Int) < (u[k].toNat : Int)) = true := decide_eq_true (by omega)
            go_wp2
            go_ret2
            exact ⟨ret_ii (by rw [pair_fst HZ.out]; rfl) (by rw [pair_snd HZ.out]), _, rfl⟩
    · have HZ := Lib.hid (fin_all HF.out (by omega))
      go_wp2
      go_ret2
      exact ⟨ret_ii (by rw [pair_fst HZ.out]) (by rw [pair_snd HZ.out]; omega), _, rfl⟩
theorem first_any (u : ByteArray) (hu : u.size ≤ maxLen) (h0 : 0 < u.size) (w : World) :
    Calls Tryz.prog 122 #[.string u] w fun e w' => e = .returned (.tuple #[.int .i32 (U.fst1 u.data.toList).1, .int .i64 (U.fst1 u.data.toList).2]) ∧ ∃ m, w' = w.drewN m := by
  have hc := u[0].toNat_lt
  by_cases h1 : u[0].toNat < 128
  · refine (first_1 u h0 h1 w).mono ?_
    rintro e w' ⟨rfl, rfl⟩
    have e := U.fst1_of (t := u.data.toList.drop 1) (U.lead1 u[0].toNat h1)
    rw [← list_cons u h0, U.cont_zero] at e
    exact ⟨ret_ii (by rw [pair_fst e]) (by rw [pair_snd e]; rfl), 0, rfl⟩
  · by_cases h2 : u[0].toNat < 194 ∨ 245 ≤ u[0].toNat
    · refine (first_0 u h0 (by omega) w).mono ?_
      rintro e w' ⟨rfl, rfl⟩
      have e : U.fst1 u.data.toList = (U.RC, 1) := by
        rw [list_cons u h0]
        have hl : U.lead u[0].toNat = none := U.lead_none _ (by omega)
        simp only [U.fst1, hl]
      exact ⟨ret_ii (by rw [pair_fst e]; rfl) (by rw [pair_snd e]; rfl), 0, rfl⟩
    · by_cases h3 : u[0].toNat < 224
      · exact first_2 u hu h0 (by omega) h3 w
      · by_cases h4 : u[0].toNat < 240
        · exact first_3 u hu h0 (by omega) h4 w
        · exact first_4 u hu h0 (by omega) (by omega) w
end Go.Proofs.YtbclodbneonipaaGreat
