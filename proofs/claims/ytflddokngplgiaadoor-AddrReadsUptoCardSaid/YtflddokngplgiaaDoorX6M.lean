import Derived.Test.YtflddokngplgiaaDoorX5M
namespace Go.Proofs.YtflddokngplgiaaDoor
open Go.RowKit
/-- a part's number in a base, from acc on; what is too great stays great -/
def capN (b : Nat) : Nat → List UInt8 → Option Nat
  | acc, [] => some acc
  | acc, c :: r => if b ≤ dgt c.toNat then none else capN b (min (acc * b + dgt c.toNat) 1099511627776) r
theorem capN_none {b acc : Nat} {c : UInt8} {r : List UInt8} (h : b ≤ dgt c.toNat) : capN b acc (c :: r) = none := by rw [capN, if_pos h]
theorem capN_step {b acc : Nat} {c : UInt8} {r : List UInt8} (h : ¬ b ≤ dgt c.toNat) : capN b acc (c :: r) = capN b (min (acc * b + dgt c.toNat) 1099511627776) r := by rw [capN, if_neg h]
/-- the number of a part, as the document's answer takes it -/
def refN (l : List UInt8) : Option Nat :=
  if l = [] then none
  else if 2 ≤ l.length ∧ l[0]? = some 48 ∧ (l[1]? = some 120 ∨ l[1]? = some 88) then capN 16 0 (l.drop 2)
  else if 2 ≤ l.length ∧ l[0]? = some 48 then capN 8 0 (l.drop 1)
  else capN 10 0 l
def refNE (o : Option Nat) : Ending := match o with
  | none => .returned (.tuple #[.int .u64 0, .bool false])
  | some n => .returned (.tuple #[.int .u64 n, .bool true])
theorem refNE_no {o : Option Nat} (h : o = none) : Ending.returned (.tuple #[.int .u64 0, .bool false]) = refNE o := by rw [h]; rfl
theorem refNE_yes {o : Option Nat} {n : Nat} {a : Int} (h : o = some n) (ha : (n : Int) = a) : Ending.returned (.tuple #[.int .u64 a, .bool true]) = refNE o := by rw [h, ← ha]; rfl
theorem ext_list (s : ByteArray) (k : Nat) : (s.extract k s.size).data.toList = s.data.toList.drop k := by
  rw [ByteArray.data_extract, Array.toList_extract]
  simp only [List.extract]
  rw [List.take_of_length_le]
  rw [List.length_drop, len_list]; omega
theorem u64n (n : Nat) (h : n < 18446744073709551616) : IntKind.u64.wrap (n : Int) = (n : Int) := by
  simp [IntKind.wrap, show IntKind.u64.signed = false from rfl, show IntKind.u64.bits = 64 from rfl]; omega
theorem get_list (s : ByteArray) (k : Nat) (h : k < s.size) : s.data.toList[k]? = some s[k] := by
  rw [List.getElem?_eq_getElem (by rw [len_list]; exact h)]; rfl
theorem drop_at (x : ByteArray) (k : Nat) (h : k < x.size) : x.data.toList.drop k = x[k] :: x.data.toList.drop (k + 1) := by
  rw [List.drop_eq_getElem_cons (by rw [len_list]; exact h)]; rfl
set_option maxHeartbeats 1000000 in
set_option maxRecDepth 100000 in
theorem num_hex_a (s : ByteArray) (hs : s.size ≤ 140737488355328) (h2 : 2 ≤ s.size) (h3 : s[0] = 48) (h4 : s[1] = 120) (w : World) :
    Calls Tryd.prog 27 #[.string s] w fun e w' => e = refNE (refN s.data.toList) ∧ Below w.heap.size w w' := by
  have h1 : (s.toList == []) = false := by
    rw [ByteArray.toList_eq]; cases hq : s.data.toList with
    | nil => have := len_list s; rw [hq] at this; simp at this; omega
    | cons _ _ => rfl
  have hne : ¬ s.data.toList = [] := by intro e; have := len_list s; rw [e] at this; simp at this; omega
  have HLN := Lib.hid (len_list s)
  have l0 : 0 < s.size := by omega
  have l1 : 1 < s.size := by omega
  have l2 : 1 ≤ s.size := by omega
  have l3 : (1 : Int) ≤ (s.size : Int) := by omega
  have g0 : ((s[0].toNat : Int) == 48) = true := by rw [h3]; rfl
  have g1 : ((s[1].toNat : Int) == 120) = true := by rw [h4]; rfl
  obtain ⟨x, hx⟩ : ∃ x, s.extract 2 s.size = x := ⟨_, rfl⟩
  have hxs : x.size ≤ 140737488355328 := by rw [← hx, ByteArray.size_extract]; omega
  have HXL := Lib.hid (show x.data.toList = s.data.toList.drop 2 by rw [← hx]; exact ext_list s 2)
  have HV := Lib.hid (show refN s.data.toList = capN 16 0 x.data.toList by
    rw [HXL.out, refN, if_neg hne, if_pos ⟨by rw [HLN.out]; exact h2, by rw [get_list s 0 l0, h3], .inl (by rw [get_list s 1 l1, h4])⟩])
  clear h3 h4 hne
  go_enter Tryd.func27, Tryd.ntmps27
  go_wp2_with fail
  have hm0 : Tryd.prog.follows .mixedOrders = true := by kernel_rfl
  refine wp_region_quiet_later hm0 (by kernel_rfl) ?_
  quiet_step (fail)
  quiet_step (fail)
  quiet_step (fail)
  quiet_step (fail)
  refine wpQuiet_nil ?_
  rintro _ ⟨p, rfl⟩
  have HB0 := Lib.hid p.h
  go_wp2_with fail
  go_loopw [5, 6] (fun v5 v6 wr => ∃ (k acc : Nat) (A : Int), k ≤ x.size ∧ v5 = .int .u64 A ∧ v6 = .int .i64 k ∧ Hid ((acc : Int) = A ∧ acc ≤ 1099511627776 ∧ refN s.data.toList = capN 16 acc (x.data.toList.drop k)) ∧ Hid (Below w.heap.size w wr)) (fun _ i _ => x.size - (intOf i).toNat)
  case atStart => exact ⟨0, 0, 0, Nat.zero_le _, rfl, rfl, Lib.hid ⟨rfl, by omega, by rw [HV.out]; rfl⟩, HB0⟩
  case round =>
    obtain ⟨k, acc, A, hk, rfl, rfl, HA, HW⟩ := hrel
    by_cases hlt : k < x.size
    · obtain ⟨b, hb⟩ : ∃ b, x[k].toNat = b := ⟨_, rfl⟩
      have hb6 : b < 256 := by rw [← hb]; exact UInt8.toNat_lt _
      obtain ⟨d, hd'⟩ : ∃ d, dgt b = d := ⟨_, rfl⟩
      have HCD := Lib.hid (show ∀ W, Calls Tryd.prog 40 #[.int .u8 b] W fun e w' => e = .returned (.int .u64 d) ∧ Below W.heap.size W w' from fun W => by rw [← hd']; exact dgt_is b hb6 W)
      have HDC := Lib.hid (show dgt x[k].toNat = d by rw [hb, hd'])
      have HDR := Lib.hid (drop_at x k hlt)
      clear hd' hb6
      by_cases hB : 16 ≤ d
      · have HN := Lib.hid (show refN s.data.toList = none by rw [HA.out.2.2, HDR.out, capN_none (by rw [HDC.out]; exact hB)])
        go_wp2_with fail
        refine (HCD.out _).mono ?_
        rintro e w2 ⟨rfl, hb2⟩
        have HB2 := Lib.hid (bel2 HW.out hb2)
        clear hb2
        go_wp2_with fail
        go_ret2
        exact ⟨refNE_no HN.out, HB2.out⟩
      · obtain ⟨M, hM⟩ : ∃ M : Int, A * 16 = M := ⟨_, rfl⟩
        obtain ⟨R, hR⟩ : ∃ R : Int, M + (d : Int) = R := ⟨_, rfl⟩
        have HRN := Lib.hid (show ((acc * 16 + d : Nat) : Int) = R by have := HA.out.1; omega)
        have k1 : IntKind.u64.wrap (A * 16) = M := by
          have h := u64n (acc * 16) (by have := HA.out.2.1; omega)
          have e : ((acc * 16 : Nat) : Int) = A * 16 := by have := HA.out.1; omega
          rw [e] at h; rw [h, hM]
        have k2 : IntKind.u64.wrap (M + (d : Int)) = R := by
          have h := u64n (acc * 16 + d) (by have := HA.out.2.1; omega)
          rw [HRN.out] at h; rw [hR]; exact h
        have HS := Lib.hid (show refN s.data.toList = capN 16 (min (acc * 16 + d) 1099511627776) (x.data.toList.drop (k + 1)) by
          rw [HA.out.2.2, HDR.out, capN_step (by rw [HDC.out]; exact hB), HDC.out])
        have HBB := Lib.hid hB
        have hB' : ¬ (16 : Int) ≤ (d : Int) := by omega
        have hB2 : decide (16 ≤ d) = false := by simpa using hB
        clear hM hR
        by_cases hg : 1099511627776 < acc * 16 + d
        · have hg1 : decide ((1099511627776 : Int) < R) = true := by rw [decide_eq_true_iff]; have := HRN.out; omega
          have HG := Lib.hid (show min (acc * 16 + d) 1099511627776 = 1099511627776 by omega)
          clear hg
          go_wp2_with fail
          refine (HCD.out _).mono ?_
          rintro e w2 ⟨rfl, hb2⟩
          have HB2 := Lib.hid (bel2 HW.out hb2)
          clear hb2
          go_wp2_with fail
          go_roundw
          case rel => exact ⟨k + 1, 1099511627776, 1099511627776, by omega, rfl, by go_num, Lib.hid ⟨rfl, by omega, by rw [HS.out, HG.out]⟩, HB2⟩
          case measure => simp [intOf]; omega
        · have hg1 : decide ((1099511627776 : Int) < R) = false := by rw [decide_eq_false_iff_not]; have := HRN.out; omega
          have HG := Lib.hid (show min (acc * 16 + d) 1099511627776 = acc * 16 + d ∧ acc * 16 + d ≤ 1099511627776 by omega)
          clear hg
          go_wp2_with fail
          refine (HCD.out _).mono ?_
          rintro e w2 ⟨rfl, hb2⟩
          have HB2 := Lib.hid (bel2 HW.out hb2)
          clear hb2
          go_wp2_with fail
          go_roundw
          case rel => exact ⟨k + 1, acc * 16 + d, R, by omega, rfl, by go_num, Lib.hid ⟨HRN.out, HG.out.2, by rw [HS.out, HG.out.1]⟩, HB2⟩
          case measure => simp [intOf]; omega
    · have h5 : decide (k < x.size) = false := by simpa using hlt
      have HE := Lib.hid (show refN s.data.toList = some acc by rw [HA.out.2.2, List.drop_eq_nil_of_le (by rw [len_list]; omega)]; rfl)
      go_wp2_with fail
      go_ret2
      exact ⟨refNE_yes HE.out HA.out.1, HW.out⟩
set_option maxHeartbeats 1000000 in
set_option maxRecDepth 100000 in
theorem num_hex_b (s : ByteArray) (hs : s.size ≤ 140737488355328) (h2 : 2 ≤ s.size) (h3 : s[0] = 48) (h4 : s[1] = 88) (w : World) :
    Calls Tryd.prog 27 #[.string s] w fun e w' => e = refNE (refN s.data.toList) ∧ Below w.heap.size w w' := by
  have h1 : (s.toList == []) = false := by
    rw [ByteArray.toList_eq]; cases hq : s.data.toList with
    | nil => have := len_list s; rw [hq] at this; simp at this; omega
    | cons _ _ => rfl
  have hne : ¬ s.data.toList = [] := by intro e; have := len_list s; rw [e] at this; simp at this; omega
  have HLN := Lib.hid (len_list s)
  have l0 : 0 < s.size := by omega
  have l1 : 1 < s.size := by omega
  have l2 : 1 ≤ s.size := by omega
  have l3 : (1 : Int) ≤ (s.size : Int) := by omega
  have g0 : ((s[0].toNat : Int) == 48) = true := by rw [h3]; rfl
  have g1 : ((s[1].toNat : Int) == 120) = false := by rw [h4]; rfl
  have g2 : ((s[1].toNat : Int) == 88) = true := by rw [h4]; rfl
  obtain ⟨x, hx⟩ : ∃ x, s.extract 2 s.size = x := ⟨_, rfl⟩
  have hxs : x.size ≤ 140737488355328 := by rw [← hx, ByteArray.size_extract]; omega
  have HXL := Lib.hid (show x.data.toList = s.data.toList.drop 2 by rw [← hx]; exact ext_list s 2)
  have HV := Lib.hid (show refN s.data.toList = capN 16 0 x.data.toList by
    rw [HXL.out, refN, if_neg hne, if_pos ⟨by rw [HLN.out]; exact h2, by rw [get_list s 0 l0, h3], .inr (by rw [get_list s 1 l1, h4])⟩])
  clear h3 h4 hne
  go_enter Tryd.func27, Tryd.ntmps27
  go_wp2_with fail
  have hm0 : Tryd.prog.follows .mixedOrders = true := by kernel_rfl
  refine wp_region_quiet_later hm0 (by kernel_rfl) ?_
  quiet_step (fail)
  quiet_step (fail)
  quiet_step (fail)
  quiet_step (fail)
  refine wpQuiet_nil ?_
  rintro _ ⟨p, rfl⟩
  have HB0 := Lib.hid p.h
  go_wp2_with fail
  go_loopw [5, 6] (fun v5 v6 wr => ∃ (k acc : Nat) (A : Int), k ≤ x.size ∧ v5 = .int .u64 A ∧ v6 = .int .i64 k ∧ Hid ((acc : Int) = A ∧ acc ≤ 1099511627776 ∧ refN s.data.toList = capN 16 acc (x.data.toList.drop k)) ∧ Hid (Below w.heap.size w wr)) (fun _ i _ => x.size - (intOf i).toNat)
  case atStart => exact ⟨0, 0, 0, Nat.zero_le _, rfl, rfl, Lib.hid ⟨rfl, by omega, by rw [HV.out]; rfl⟩, HB0⟩
  case round =>
    obtain ⟨k, acc, A, hk, rfl, rfl, HA, HW⟩ := hrel
    by_cases hlt : k < x.size
    · obtain ⟨b, hb⟩ : ∃ b, x[k].toNat = b := ⟨_, rfl⟩
      have hb6 : b < 256 := by rw [← hb]; exact UInt8.toNat_lt _
      obtain ⟨d, hd'⟩ : ∃ d, dgt b = d := ⟨_, rfl⟩
      have HCD := Lib.hid (show ∀ W, Calls Tryd.prog 40 #[.int .u8 b] W fun e w' => e = .returned (.int .u64 d) ∧ Below W.heap.size W w' from fun W => by rw [← hd']; exact dgt_is b hb6 W)
      have HDC := Lib.hid (show dgt x[k].toNat = d by rw [hb, hd'])
      have HDR := Lib.hid (drop_at x k hlt)
      clear hd' hb6
      by_cases hB : 16 ≤ d
      · have HN := Lib.hid (show refN s.data.toList = none by rw [HA.out.2.2, HDR.out, capN_none (by rw [HDC.out]; exact hB)])
        go_wp2_with fail
        refine (HCD.out _).mono ?_
        rintro e w2 ⟨rfl, hb2⟩
        have HB2 := Lib.hid (bel2 HW.out hb2)
        clear hb2
        go_wp2_with fail
        go_ret2
        exact ⟨refNE_no HN.out, HB2.out⟩
      · obtain ⟨M, hM⟩ : ∃ M : Int, A * 16 = M := ⟨_, rfl⟩
        obtain ⟨R, hR⟩ : ∃ R : Int, M + (d : Int) = R := ⟨_, rfl⟩
        have HRN := Lib.hid (show ((acc * 16 + d : Nat) : Int) = R by have := HA.out.1; omega)
        have k1 : IntKind.u64.wrap (A * 16) = M := by
          have h := u64n (acc * 16) (by have := HA.out.2.1; omega)
          have e : ((acc * 16 : Nat) : Int) = A * 16 := by have := HA.out.1; omega
          rw [e] at h; rw [h, hM]
        have k2 : IntKind.u64.wrap (M + (d : Int)) = R := by
          have h := u64n (acc * 16 + d) (by have := HA.out.2.1; omega)
          rw [HRN.out] at h; rw [hR]; exact h
        have HS := Lib.hid (show refN s.data.toList = capN 16 (min (acc * 16 + d) 1099511627776) (x.data.toList.drop (k + 1)) by
          rw [HA.out.2.2, HDR.out, capN_step (by rw [HDC.out]; exact hB), HDC.out])
        have HBB := Lib.hid hB
        have hB' : ¬ (16 : Int) ≤ (d : Int) := by omega
        have hB2 : decide (16 ≤ d) = false := by simpa using hB
        clear hM hR
        by_cases hg : 1099511627776 < acc * 16 + d
        · have hg1 : decide ((1099511627776 : Int) < R) = true := by rw [decide_eq_true_iff]; have := HRN.out; omega
          have HG := Lib.hid (show min (acc * 16 + d) 1099511627776 = 1099511627776 by omega)
          clear hg
          go_wp2_with fail
          refine (HCD.out _).mono ?_
          rintro e w2 ⟨rfl, hb2⟩
          have HB2 := Lib.hid (bel2 HW.out hb2)
          clear hb2
          go_wp2_with fail
          go_roundw
          case rel => exact ⟨k + 1, 1099511627776, 1099511627776, by omega, rfl, by go_num, Lib.hid ⟨rfl, by omega, by rw [HS.out, HG.out]⟩, HB2⟩
          case measure => simp [intOf]; omega
        · have hg1 : decide ((1099511627776 : Int) < R) = false := by rw [decide_eq_false_iff_not]; have := HRN.out; omega
          have HG := Lib.hid (show min (acc * 16 + d) 1099511627776 = acc * 16 + d ∧ acc * 16 + d ≤ 1099511627776 by omega)
          clear hg
          go_wp2_with fail
          refine (HCD.out _).mono ?_
          rintro e w2 ⟨rfl, hb2⟩
          have HB2 := Lib.hid (bel2 HW.out hb2)
          clear hb2
          go_wp2_with fail
          go_roundw
          case rel => exact ⟨k + 1, acc * 16 + d, R, by omega, rfl, by go_num, Lib.hid ⟨HRN.out, HG.out.2, by rw [HS.out, HG.out.1]⟩, HB2⟩
          case measure => simp [intOf]; omega
    · have h5 : decide (k < x.size) = false := by simpa using hlt
      have HE := Lib.hid (show refN s.data.toList = some acc by rw [HA.out.2.2, List.drop_eq_nil_of_le (by rw [len_list]; omega)]; rfl)
      go_wp2_with fail
      go_ret2
      exact ⟨refNE_yes HE.out HA.out.1, HW.out⟩
set_option maxHeartbeats 1000000 in
set_option maxRecDepth 100000 in
theorem num_oct (s : ByteArray) (hs : s.size ≤ 140737488355328) (h2 : 2 ≤ s.size) (h3 : s[0] = 48) (h4 : ¬ s[1] = 120) (h5 : ¬ s[1] = 88) (w : World) :
    Calls Tryd.prog 27 #[.string s] w fun e w' => e = refNE (refN s.data.toList) ∧ Below w.heap.size w w' := by
  have h1 : (s.toList == []) = false := by
    rw [ByteArray.toList_eq]; cases hq : s.data.toList with
    | nil => have := len_list s; rw [hq] at this; simp at this; omega
    | cons _ _ => rfl
  have hne : ¬ s.data.toList = [] := by intro e; have := len_list s; rw [e] at this; simp at this; omega
  have HLN := Lib.hid (len_list s)
  have l0 : 0 < s.size := by omega
  have l1 : 1 < s.size := by omega
  have l2 : 1 ≤ s.size := by omega
  have l3 : (1 : Int) ≤ (s.size : Int) := by omega
  have g0 : ((s[0].toNat : Int) == 48) = true := by rw [h3]; rfl
  have g1 : ((s[1].toNat : Int) == 120) = false := by
    rw [beq_eq_false_iff_ne]; intro e; exact h4 (UInt8.toNat_inj.1 (by show _ = 120; omega))
  have g2 : ((s[1].toNat : Int) == 88) = false := by
    rw [beq_eq_false_iff_ne]; intro e; exact h5 (UInt8.toNat_inj.1 (by show _ = 88; omega))
  obtain ⟨x, hx⟩ : ∃ x, s.extract 1 s.size = x := ⟨_, rfl⟩
  have hxs : x.size ≤ 140737488355328 := by rw [← hx, ByteArray.size_extract]; omega
  have HXL := Lib.hid (show x.data.toList = s.data.toList.drop 1 by rw [← hx]; exact ext_list s 1)
  have HV := Lib.hid (show refN s.data.toList = capN 8 0 x.data.toList by
    rw [HXL.out, refN, if_neg hne, if_neg (by
      rw [get_list s 1 l1]; rintro ⟨_, _, h | h⟩
      · exact h4 (Option.some.inj h)
      · exact h5 (Option.some.inj h)), if_pos ⟨by rw [HLN.out]; exact h2, by rw [get_list s 0 l0, h3]⟩])
  clear h3 h4 h5 hne
  go_enter Tryd.func27, Tryd.ntmps27
  go_wp2_with fail
  have hm0 : Tryd.prog.follows .mixedOrders = true := by kernel_rfl
  refine wp_region_quiet_later hm0 (by kernel_rfl) ?_
  quiet_step (fail)
  quiet_step (fail)
  quiet_step (fail)
  quiet_step (fail)
  refine wpQuiet_nil ?_
  rintro _ ⟨p, rfl⟩
  have HB0 := Lib.hid p.h
  go_wp2_with fail
  go_loopw [5, 6] (fun v5 v6 wr => ∃ (k acc : Nat) (A : Int), k ≤ x.size ∧ v5 = .int .u64 A ∧ v6 = .int .i64 k ∧ Hid ((acc : Int) = A ∧ acc ≤ 1099511627776 ∧ refN s.data.toList = capN 8 acc (x.data.toList.drop k)) ∧ Hid (Below w.heap.size w wr)) (fun _ i _ => x.size - (intOf i).toNat)
  case atStart => exact ⟨0, 0, 0, Nat.zero_le _, rfl, rfl, Lib.hid ⟨rfl, by omega, by rw [HV.out]; rfl⟩, HB0⟩
  case round =>
    obtain ⟨k, acc, A, hk, rfl, rfl, HA, HW⟩ := hrel
    by_cases hlt : k < x.size
    · obtain ⟨b, hb⟩ : ∃ b, x[k].toNat = b := ⟨_, rfl⟩
      have hb6 : b < 256 := by rw [← hb]; exact UInt8.toNat_lt _
      obtain ⟨d, hd'⟩ : ∃ d, dgt b = d := ⟨_, rfl⟩
      have HCD := Lib.hid (show ∀ W, Calls Tryd.prog 40 #[.int .u8 b] W fun e w' => e = .returned (.int .u64 d) ∧ Below W.heap.size W w' from fun W => by rw [← hd']; exact dgt_is b hb6 W)
      have HDC := Lib.hid (show dgt x[k].toNat = d by rw [hb, hd'])
      have HDR := Lib.hid (drop_at x k hlt)
      clear hd' hb6
      by_cases hB : 8 ≤ d
      · have HN := Lib.hid (show refN s.data.toList = none by rw [HA.out.2.2, HDR.out, capN_none (by rw [HDC.out]; exact hB)])
        go_wp2_with fail
        refine (HCD.out _).mono ?_
        rintro e w2 ⟨rfl, hb2⟩
        have HB2 := Lib.hid (bel2 HW.out hb2)
        clear hb2
        go_wp2_with fail
        go_ret2
        exact ⟨refNE_no HN.out, HB2.out⟩
      · obtain ⟨M, hM⟩ : ∃ M : Int, A * 8 = M := ⟨_, rfl⟩
        obtain ⟨R, hR⟩ : ∃ R : Int, M + (d : Int) = R := ⟨_, rfl⟩
        have HRN := Lib.hid (show ((acc * 8 + d : Nat) : Int) = R by have := HA.out.1; omega)
        have k1 : IntKind.u64.wrap (A * 8) = M := by
          have h := u64n (acc * 8) (by have := HA.out.2.1; omega)
          have e : ((acc * 8 : Nat) : Int) = A * 8 := by have := HA.out.1; omega
          rw [e] at h; rw [h, hM]
        have k2 : IntKind.u64.wrap (M + (d : Int)) = R := by
          have h := u64n (acc * 8 + d) (by have := HA.out.2.1; omega)
          rw [HRN.out] at h; rw [hR]; exact h
        have HS := Lib.hid (show refN s.data.toList = capN 8 (min (acc * 8 + d) 1099511627776) (x.data.toList.drop (k + 1)) by
          rw [HA.out.2.2, HDR.out, capN_step (by rw [HDC.out]; exact hB), HDC.out])
        have HBB := Lib.hid hB
        have hB' : ¬ (8 : Int) ≤ (d : Int) := by omega
        have hB2 : decide (8 ≤ d) = false := by simpa using hB
        clear hM hR
        by_cases hg : 1099511627776 < acc * 8 + d
        · have hg1 : decide ((1099511627776 : Int) < R) = true := by rw [decide_eq_true_iff]; have := HRN.out; omega
          have HG := Lib.hid (show min (acc * 8 + d) 1099511627776 = 1099511627776 by omega)
          clear hg
          go_wp2_with fail
          refine (HCD.out _).mono ?_
          rintro e w2 ⟨rfl, hb2⟩
          have HB2 := Lib.hid (bel2 HW.out hb2)
          clear hb2
          go_wp2_with fail
          go_roundw
          case rel => exact ⟨k + 1, 1099511627776, 1099511627776, by omega, rfl, by go_num, Lib.hid ⟨rfl, by omega, by rw [HS.out, HG.out]⟩, HB2⟩
          case measure => simp [intOf]; omega
        · have hg1 : decide ((1099511627776 : Int) < R) = false := by rw [decide_eq_false_iff_not]; have := HRN.out; omega
          have HG := Lib.hid (show min (acc * 8 + d) 1099511627776 = acc * 8 + d ∧ acc * 8 + d ≤ 1099511627776 by omega)
          clear hg
          go_wp2_with fail
          refine (HCD.out _).mono ?_
          rintro e w2 ⟨rfl, hb2⟩
          have HB2 := Lib.hid (bel2 HW.out hb2)
          clear hb2
          go_wp2_with fail
          go_roundw
          case rel => exact ⟨k + 1, acc * 8 + d, R, by omega, rfl, by go_num, Lib.hid ⟨HRN.out, HG.out.2, by rw [HS.out, HG.out.1]⟩, HB2⟩
          case measure => simp [intOf]; omega
    · have h5 : decide (k < x.size) = false := by simpa using hlt
      have HE := Lib.hid (show refN s.data.toList = some acc by rw [HA.out.2.2, List.drop_eq_nil_of_le (by rw [len_list]; omega)]; rfl)
      go_wp2_with fail
      go_ret2
      exact ⟨refNE_yes HE.out HA.out.1, HW.out⟩
set_option maxHeartbeats 1000000 in
set_option maxRecDepth 100000 in
theorem num_dec (s : ByteArray) (hs : s.size ≤ 140737488355328) (h2 : 2 ≤ s.size) (h3 : ¬ s[0] = 48) (w : World) :
    Calls Tryd.prog 27 #[.string s] w fun e w' => e = refNE (refN s.data.toList) ∧ Below w.heap.size w w' := by
  have h1 : (s.toList == []) = false := by
    rw [ByteArray.toList_eq]; cases hq : s.data.toList with
    | nil => have := len_list s; rw [hq] at this; simp at this; omega
    | cons _ _ => rfl
  have hne : ¬ s.data.toList = [] := by intro e; have := len_list s; rw [e] at this; simp at this; omega
  have HLN := Lib.hid (len_list s)
  have l0 : 0 < s.size := by omega
  have l1 : 1 < s.size := by omega
  have l2 : 1 ≤ s.size := by omega
  have l3 : (1 : Int) ≤ (s.size : Int) := by omega
  have g0 : ((s[0].toNat : Int) == 48) = false := by
    rw [beq_eq_false_iff_ne]; intro e; exact h3 (UInt8.toNat_inj.1 (by show _ = 48; omega))
  have HV := Lib.hid (show refN s.data.toList = capN 10 0 s.data.toList by
    rw [refN, if_neg hne, if_neg (by rw [get_list s 0 l0]; rintro ⟨_, h, _⟩; exact h3 (Option.some.inj h)), if_neg (by rw [get_list s 0 l0]; rintro ⟨_, h⟩; exact h3 (Option.some.inj h))])
  clear h3 hne
  go_enter Tryd.func27, Tryd.ntmps27
  go_wp2_with fail
  go_loopw [5, 6] (fun v5 v6 wr => ∃ (k acc : Nat) (A : Int), k ≤ s.size ∧ v5 = .int .u64 A ∧ v6 = .int .i64 k ∧ Hid ((acc : Int) = A ∧ acc ≤ 1099511627776 ∧ refN s.data.toList = capN 10 acc (s.data.toList.drop k)) ∧ Hid (Below w.heap.size w wr)) (fun _ i _ => s.size - (intOf i).toNat)
  case atStart => exact ⟨0, 0, 0, Nat.zero_le _, rfl, rfl, Lib.hid ⟨rfl, by omega, by rw [HV.out]; rfl⟩, Lib.hid (Below.refl _ _)⟩
  case round =>
    obtain ⟨k, acc, A, hk, rfl, rfl, HA, HW⟩ := hrel
    by_cases hlt : k < s.size
    · obtain ⟨b, hb⟩ : ∃ b, s[k].toNat = b := ⟨_, rfl⟩
      have hb6 : b < 256 := by rw [← hb]; exact UInt8.toNat_lt _
      obtain ⟨d, hd'⟩ : ∃ d, dgt b = d := ⟨_, rfl⟩
      have HCD := Lib.hid (show ∀ W, Calls Tryd.prog 40 #[.int .u8 b] W fun e w' => e = .returned (.int .u64 d) ∧ Below W.heap.size W w' from fun W => by rw [← hd']; exact dgt_is b hb6 W)
      have HDC := Lib.hid (show dgt s[k].toNat = d by rw [hb, hd'])
      have HDR := Lib.hid (drop_at s k hlt)
      clear hd' hb6
      by_cases hB : 10 ≤ d
      · have HN := Lib.hid (show refN s.data.toList = none by rw [HA.out.2.2, HDR.out, capN_none (by rw [HDC.out]; exact hB)])
        go_wp2_with fail
        refine (HCD.out _).mono ?_
        rintro e w2 ⟨rfl, hb2⟩
        have HB2 := Lib.hid (bel2 HW.out hb2)
        clear hb2
        go_wp2_with fail
        go_ret2
        exact ⟨refNE_no HN.out, HB2.out⟩
      · obtain ⟨M, hM⟩ : ∃ M : Int, A * 10 = M := ⟨_, rfl⟩
        obtain ⟨R, hR⟩ : ∃ R : Int, M + (d : Int) = R := ⟨_, rfl⟩
        have HRN := Lib.hid (show ((acc * 10 + d : Nat) : Int) = R by have := HA.out.1; omega)
        have k1 : IntKind.u64.wrap (A * 10) = M := by
          have h := u64n (acc * 10) (by have := HA.out.2.1; omega)
          have e : ((acc * 10 : Nat) : Int) = A * 10 := by have := HA.out.1; omega
          rw [e] at h; rw [h, hM]
        have k2 : IntKind.u64.wrap (M + (d : Int)) = R := by
          have h := u64n (acc * 10 + d) (by have := HA.out.2.1; omega)
          rw [HRN.out] at h; rw [hR]; exact h
        have HS := Lib.hid (show refN s.data.toList = capN 10 (min (acc * 10 + d) 1099511627776) (s.data.toList.drop (k + 1)) by
          rw [HA.out.2.2, HDR.out, capN_step (by rw [HDC.out]; exact hB), HDC.out])
        have HBB := Lib.hid hB
        have hB' : ¬ (10 : Int) ≤ (d : Int) := by omega
        have hB2 : decide (10 ≤ d) = false := by simpa using hB
        clear hM hR
        by_cases hg : 1099511627776 < acc * 10 + d
        · have hg1 : decide ((1099511627776 : Int) < R) = true := by rw [decide_eq_true_iff]; have := HRN.out; omega
          have HG := Lib.hid (show min (acc * 10 + d) 1099511627776 = 1099511627776 by omega)
          clear hg
          go_wp2_with fail
          refine (HCD.out _).mono ?_
          rintro e w2 ⟨rfl, hb2⟩
          have HB2 := Lib.hid (bel2 HW.out hb2)
          clear hb2
          go_wp2_with fail
          go_roundw
          case rel => exact ⟨k + 1, 1099511627776, 1099511627776, by omega, rfl, by go_num, Lib.hid ⟨rfl, by omega, by rw [HS.out, HG.out]⟩, HB2⟩
          case measure => simp [intOf]; omega
        · have hg1 : decide ((1099511627776 : Int) < R) = false := by rw [decide_eq_false_iff_not]; have := HRN.out; omega
          have HG := Lib.hid (show min (acc * 10 + d) 1099511627776 = acc * 10 + d ∧ acc * 10 + d ≤ 1099511627776 by omega)
          clear hg
          go_wp2_with fail
          refine (HCD.out _).mono ?_
          rintro e w2 ⟨rfl, hb2⟩
          have HB2 := Lib.hid (bel2 HW.out hb2)
          clear hb2
          go_wp2_with fail
          go_roundw
          case rel => exact ⟨k + 1, acc * 10 + d, R, by omega, rfl, by go_num, Lib.hid ⟨HRN.out, HG.out.2, by rw [HS.out, HG.out.1]⟩, HB2⟩
          case measure => simp [intOf]; omega
    · have h5 : decide (k < s.size) = false := by simpa using hlt
      have HE := Lib.hid (show refN s.data.toList = some acc by rw [HA.out.2.2, List.drop_eq_nil_of_le (by rw [len_list]; omega)]; rfl)
      go_wp2_with fail
      go_ret2
      exact ⟨refNE_yes HE.out HA.out.1, HW.out⟩
set_option maxHeartbeats 1000000 in
set_option maxRecDepth 100000 in
theorem num_one (s : ByteArray) (hs : s.size ≤ 140737488355328) (h2 : ¬ 2 ≤ s.size) (h0 : 0 < s.size) (w : World) :
    Calls Tryd.prog 27 #[.string s] w fun e w' => e = refNE (refN s.data.toList) ∧ Below w.heap.size w w' := by
  have h1 : (s.toList == []) = false := by
    rw [ByteArray.toList_eq]; cases hq : s.data.toList with
    | nil => have := len_list s; rw [hq] at this; simp at this; omega
    | cons _ _ => rfl
  have hne : ¬ s.data.toList = [] := by intro e; have := len_list s; rw [e] at this; simp at this; omega
  have HLN := Lib.hid (len_list s)
  have h2' : decide ((2 : Int) ≤ (s.size : Int)) = false := by rw [decide_eq_false_iff_not]; omega
  have HV := Lib.hid (show refN s.data.toList = capN 10 0 s.data.toList by
    rw [refN, if_neg hne, if_neg (by rw [HLN.out]; omega), if_neg (by rw [HLN.out]; omega)])
  clear hne
  go_enter Tryd.func27, Tryd.ntmps27
  go_wp2_with fail
  go_loopw [5, 6] (fun v5 v6 wr => ∃ (k acc : Nat) (A : Int), k ≤ s.size ∧ v5 = .int .u64 A ∧ v6 = .int .i64 k ∧ Hid ((acc : Int) = A ∧ acc ≤ 1099511627776 ∧ refN s.data.toList = capN 10 acc (s.data.toList.drop k)) ∧ Hid (Below w.heap.size w wr)) (fun _ i _ => s.size - (intOf i).toNat)
  case atStart => exact ⟨0, 0, 0, Nat.zero_le _, rfl, rfl, Lib.hid ⟨rfl, by omega, by rw [HV.out]; rfl⟩, Lib.hid (Below.refl _ _)⟩
  case round =>
    obtain ⟨k, acc, A, hk, rfl, rfl, HA, HW⟩ := hrel
    by_cases hlt : k < s.size
    · obtain ⟨b, hb⟩ : ∃ b, s[k].toNat = b := ⟨_, rfl⟩
      have hb6 : b < 256 := by rw [← hb]; exact UInt8.toNat_lt _
      obtain ⟨d, hd'⟩ : ∃ d, dgt b = d := ⟨_, rfl⟩
      have HCD := Lib.hid (show ∀ W, Calls Tryd.prog 40 #[.int .u8 b] W fun e w' => e = .returned (.int .u64 d) ∧ Below W.heap.size W w' from fun W => by rw [← hd']; exact dgt_is b hb6 W)
      have HDC := Lib.hid (show dgt s[k].toNat = d by rw [hb, hd'])
      have HDR := Lib.hid (drop_at s k hlt)
      clear hd' hb6
      by_cases hB : 10 ≤ d
      · have HN := Lib.hid (show refN s.data.toList = none by rw [HA.out.2.2, HDR.out, capN_none (by rw [HDC.out]; exact hB)])
        go_wp2_with fail
        refine (HCD.out _).mono ?_
        rintro e w2 ⟨rfl, hb2⟩
        have HB2 := Lib.hid (bel2 HW.out hb2)
        clear hb2
        go_wp2_with fail
        go_ret2
        exact ⟨refNE_no HN.out, HB2.out⟩
      · obtain ⟨M, hM⟩ : ∃ M : Int, A * 10 = M := ⟨_, rfl⟩
        obtain ⟨R, hR⟩ : ∃ R : Int, M + (d : Int) = R := ⟨_, rfl⟩
        have HRN := Lib.hid (show ((acc * 10 + d : Nat) : Int) = R by have := HA.out.1; omega)
        have k1 : IntKind.u64.wrap (A * 10) = M := by
          have h := u64n (acc * 10) (by have := HA.out.2.1; omega)
          have e : ((acc * 10 : Nat) : Int) = A * 10 := by have := HA.out.1; omega
          rw [e] at h; rw [h, hM]
        have k2 : IntKind.u64.wrap (M + (d : Int)) = R := by
          have h := u64n (acc * 10 + d) (by have := HA.out.2.1; omega)
          rw [HRN.out] at h; rw [hR]; exact h
        have HS := Lib.hid (show refN s.data.toList = capN 10 (min (acc * 10 + d) 1099511627776) (s.data.toList.drop (k + 1)) by
          rw [HA.out.2.2, HDR.out, capN_step (by rw [HDC.out]; exact hB), HDC.out])
        have HBB := Lib.hid hB
        have hB' : ¬ (10 : Int) ≤ (d : Int) := by omega
        have hB2 : decide (10 ≤ d) = false := by simpa using hB
        clear hM hR
        by_cases hg : 1099511627776 < acc * 10 + d
        · have hg1 : decide ((1099511627776 : Int) < R) = true := by rw [decide_eq_true_iff]; have := HRN.out; omega
          have HG := Lib.hid (show min (acc * 10 + d) 1099511627776 = 1099511627776 by omega)
          clear hg
          go_wp2_with fail
          refine (HCD.out _).mono ?_
          rintro e w2 ⟨rfl, hb2⟩
          have HB2 := Lib.hid (bel2 HW.out hb2)
          clear hb2
          go_wp2_with fail
          go_roundw
          case rel => exact ⟨k + 1, 1099511627776, 1099511627776, by omega, rfl, by go_num, Lib.hid ⟨rfl, by omega, by rw [HS.out, HG.out]⟩, HB2⟩
          case measure => simp [intOf]; omega
        · have hg1 : decide ((1099511627776 : Int) < R) = false := by rw [decide_eq_false_iff_not]; have := HRN.out; omega
          have HG := Lib.hid (show min (acc * 10 + d) 1099511627776 = acc * 10 + d ∧ acc * 10 + d ≤ 1099511627776 by omega)
          clear hg
          go_wp2_with fail
          refine (HCD.out _).mono ?_
          rintro e w2 ⟨rfl, hb2⟩
          have HB2 := Lib.hid (bel2 HW.out hb2)
          clear hb2
          go_wp2_with fail
          go_roundw
          case rel => exact ⟨k + 1, acc * 10 + d, R, by omega, rfl, by go_num, Lib.hid ⟨HRN.out, HG.out.2, by rw [HS.out, HG.out.1]⟩, HB2⟩
          case measure => simp [intOf]; omega
    · have h5 : decide (k < s.size) = false := by simpa using hlt
      have HE := Lib.hid (show refN s.data.toList = some acc by rw [HA.out.2.2, List.drop_eq_nil_of_le (by rw [len_list]; omega)]; rfl)
      go_wp2_with fail
      go_ret2
      exact ⟨refNE_yes HE.out HA.out.1, HW.out⟩
set_option maxHeartbeats 1000000 in
set_option maxRecDepth 100000 in
theorem num_none (s : ByteArray) (h : s.data.toList = []) (w : World) :
    Calls Tryd.prog 27 #[.string s] w fun e w' => e = refNE (refN s.data.toList) ∧ Below w.heap.size w w' := by
  have h0 : s.toList = [] := by rw [ByteArray.toList_eq]; exact h
  have h1 : (s.toList == []) = true := by simpa using h0
  have HN := Lib.hid (show refN s.data.toList = none by rw [h]; rfl)
  clear h
  go_enter Tryd.func27, Tryd.ntmps27
  go_wp2_with fail
  go_ret2
  exact ⟨refNE_no HN.out, Below.refl _ _⟩
theorem refN_is (s : ByteArray) (hs : s.size ≤ 140737488355328) (w : World) :
    Calls Tryd.prog 27 #[.string s] w fun e w' => e = refNE (refN s.data.toList) ∧ Below w.heap.size w w' := by
  by_cases h2 : 2 ≤ s.size
  · by_cases h3 : s[0] = 48
    · by_cases h4 : s[1] = 120
      · exact num_hex_a s hs h2 h3 h4 w
      · by_cases h5 : s[1] = 88
        · exact num_hex_b s hs h2 h3 h5 w
        · exact num_oct s hs h2 h3 h4 h5 w
    · exact num_dec s hs h2 h3 w
  · by_cases h0 : 0 < s.size
    · exact num_one s hs h2 h0 w
    · exact num_none s (List.length_eq_zero_iff.1 (by rw [len_list]; omega)) w
end Go.Proofs.YtflddokngplgiaaDoor
