import Derived.Test.YtamhmpgaapgmbaaDoorA24
import Derived.Test.YtamhmpgaapgmbaaDoorM4
namespace Go.Proofs.YtamhmpgaapgmbaaDoor
open Go.RowKit
set_option maxHeartbeats 1000000 in
set_option maxRecDepth 100000 in
theorem dot_empty (a : ByteArray) (h : a.data.toList = []) (w : World) (hG : Glob w) :
    Calls Tryd.prog 9 #[.string a] w fun e w' => e = .returned (.bool true) ∧ Below w.heap.size w w' := by
  have HG := Lib.hid hG
  have h1 : a.toList = [] := by rw [ByteArray.toList_eq]; exact h
  clear hG h
  go_enter Tryd.func9, Tryd.ntmps9
  go_wp2_with fail
  refine (lives_is _ HG.out).mono ?_
  rintro e w1 ⟨rfl, hb⟩
  have HB1 := Lib.hid hb
  clear hb
  go_wp2_with fail
  go_ret
  exact ⟨rfl, HB1.out⟩
set_option maxHeartbeats 1000000 in
set_option maxRecDepth 100000 in
theorem dot_dot (a : ByteArray) (hs : a.size ≤ 140737488351232) (h0 : 0 < a.size) (h : a[a.size - 1] = 46) (w : World) (hG : Glob w) :
    Calls Tryd.prog 9 #[.string a] w fun e w' => e = .returned (.bool true) ∧ Below w.heap.size w w' := by
  have HG := Lib.hid hG
  have h1 : a.toList.isEmpty = false := by
    rw [ByteArray.toList_eq]; cases hq : a.data.toList with
    | nil => have := len_list a; rw [hq] at this; simp at this; omega
    | cons _ _ => rfl
  have h2 : ¬ a.toList = [] := by intro e; rw [e] at h1; cases h1
  have i0 : (0 : Int) ≤ (a.size : Int) - 1 := by omega
  have i1 : (a.size : Int) - 1 < (a.size : Int) := by omega
  have i2 : ((a.size : Int) - 1).toNat = a.size - 1 := by omega
  have g0 : ((a[a.size - 1].toNat : Int) == 46) = true := by rw [h]; rfl
  have i3 : a.size - 1 < a.size := by omega
  clear hG h
  go_enter Tryd.func9, Tryd.ntmps9
  go_wp2_with fail
  refine (lives_is _ HG.out).mono ?_
  rintro e w1 ⟨rfl, hb⟩
  have HB1 := Lib.hid hb
  clear hb
  go_wp2_with fail
  go_ret
  exact ⟨rfl, HB1.out⟩
theorem ansE_form (o : Option Nat) : ∃ (x : Nat) (y : Int), ansE o = .returned (.tuple #[.int .u32 x, .int .i64 y]) := by
  cases o with
  | none => exact ⟨0, 17, rfl⟩
  | some n => exact ⟨n, 0, rfl⟩
set_option maxHeartbeats 1000000 in
set_option maxRecDepth 100000 in
theorem dot_else (a : ByteArray) (hs : a.size ≤ 140737488351232) (h0 : 0 < a.size) (h : ¬ a[a.size - 1] = 46) (r : List UInt8) (b : UInt8) (hr : a.data.toList = r ++ [b]) (hb46 : ¬ b = 46) (w : World) (hG : Glob w) :
    Calls Tryd.prog 9 #[.string a] w fun e w' => e = .returned (.bool true) ∧ Below w.heap.size w w' := by
  have HG := Lib.hid hG
  have h1 : a.toList.isEmpty = false := by
    rw [ByteArray.toList_eq, hr]; simp
  have h2 : ¬ a.toList = [] := by intro e; rw [e] at h1; cases h1
  have i0 : (0 : Int) ≤ (a.size : Int) - 1 := by omega
  have i1 : (a.size : Int) - 1 < (a.size : Int) := by omega
  have i2 : ((a.size : Int) - 1).toNat = a.size - 1 := by omega
  have g0 : ((a[a.size - 1].toNat : Int) == 46) = false := by
    rw [beq_eq_false_iff_ne]; intro e; exact h (UInt8.toNat_inj.1 (by show _ = 46; omega))
  have i3 : a.size - 1 < a.size := by omega
  have q1 : ¬ 9223372036854775807 < a.size + 1 := by omega
  have hd : (a ++ ⟨#[46]⟩).data.toList = (r ++ [b]) ++ [46] := by rw [ByteArray.data_append, Array.toList_append, hr]
  have hsz : (a ++ ⟨#[46]⟩ : ByteArray).size ≤ 140737488355328 := by rw [ByteArray.size_append]; show a.size + 1 ≤ _; omega
  have HV := Lib.hid (show v4O (a ++ ⟨#[46]⟩ : ByteArray).data.toList = v4O a.data.toList by rw [hd, hr]; exact v4_dot r b hb46)
  have HE := Lib.hid (show endsB (a ++ ⟨#[46]⟩ : ByteArray).data.toList = endsB a.data.toList by rw [hd, hr]; exact ends_dot r b hb46)
  have H6 := Lib.hid (show v6P (a ++ ⟨#[46]⟩ : ByteArray).data.toList = none by rw [hd]; exact v6_dot _)
  have HZ := Lib.hid hsz
  obtain ⟨d, hdd⟩ : ∃ d : ByteArray, a ++ (⟨#[46]⟩ : ByteArray) = d := ⟨_, rfl⟩
  have HD := Lib.hid hdd
  rw [hdd] at HV HE H6 HZ
  clear hG h hr hd hsz hb46 hdd
  go_enter Tryd.func9, Tryd.ntmps9
  go_wp2_with fail
  refine (lives_is _ HG.out).mono ?_
  rintro e w1 ⟨rfl, hb⟩
  have HB1 := Lib.hid hb
  have HG1 := Lib.hid (HG.out.to hb)
  clear hb
  go_wp2_with fail
  refine (v4_is a (by omega) _ HG1.out).mono ?_
  rintro e w2 ⟨rfl, hb⟩
  have HB2 := Lib.hid (bel2 HB1.out hb)
  have HG2 := Lib.hid (HG1.out.to hb)
  clear hb
  obtain ⟨x, y, hxy⟩ := ansE_form (v4O a.data.toList)
  have HXY := Lib.hid hxy
  rw [hxy]
  clear hxy
  go_wp2_with fail
  rw [HD.out]
  refine (v4_is d HZ.out _ HG2.out).mono ?_
  rintro e w3 ⟨he, hb⟩
  rw [HV.out, HXY.out] at he
  subst he
  have HB3 := Lib.hid (bel2 HB2.out hb)
  have HG3 := Lib.hid (HG2.out.to hb)
  clear hb
  go_wp2_with fail
  rw [HD.out]
  refine (v6_is d HZ.out _ HG3.out).mono ?_
  rintro e w4 ⟨he, hb⟩
  rw [H6.out] at he
  subst he
  have HB4 := Lib.hid (bel2 HB3.out hb)
  have HG4 := Lib.hid (HG3.out.to hb)
  clear hb
  simp only [v6E]
  have HN5 := Lib.hid (Has.new w4 (.cells Z8 27))
  have HB5 := Lib.hid (below_setRow (HB4.out.alloc HB4.out.size (.cells Z8 27)) HB4.out.size Z8)
  have HG5 := Lib.hid (HG.out.to HB5.out)
  go_wp2_with (refine wpList_store_row rfl 27 (.tmp 7) (.tmp 36) rfl w4.heap.size Z8 rfl rfl 27 Z8 HN5.out info27 rfl Z8_one ?_)
  refine (ends_is a (by omega) _ HG5.out).mono ?_
  rintro e w6 ⟨rfl, hb⟩
  have HB6 := Lib.hid (bel2 HB5.out hb)
  have HG6 := Lib.hid (HG5.out.to hb)
  clear hb
  go_wp2_with fail
  rw [HD.out]
  refine (ends_is d HZ.out _ HG6.out).mono ?_
  rintro e w7 ⟨he, hb⟩
  rw [HE.out] at he
  subst he
  have HB7 := Lib.hid (bel2 HB6.out hb)
  clear hb
  go_wp2_with fail
  go_ret
  exact ⟨rfl, HB7.out⟩
theorem last_of (a : ByteArray) (h0 : 0 < a.size) : ∃ r, a.data.toList = r ++ [a[a.size - 1]] := by
  have hne : a.data.toList ≠ [] := by intro e; have := len_list a; rw [e] at this; simp at this; omega
  refine ⟨a.data.toList.dropLast, ?_⟩
  conv => lhs; rw [← List.dropLast_concat_getLast hne]
  congr 2
  rw [List.getLast_eq_getElem]
  have hl : a.data.toList.length - 1 = a.size - 1 := by rw [len_list]
  simp only [hl]
  rfl
theorem AddrDot_walk (a : ByteArray) (hs : a.size ≤ 140737488351232) (w : World) (hG : Glob w) :
    Calls Tryd.prog 9 #[.string a] w fun e w' => e = .returned (.bool true) ∧ Below w.heap.size w w' := by
  by_cases h0 : 0 < a.size
  · obtain ⟨r, hr⟩ := last_of a h0
    by_cases h : a[a.size - 1] = 46
    · exact dot_dot a hs h0 h w hG
    · exact dot_else a hs h0 h r _ hr h w hG
  · exact dot_empty a (List.length_eq_zero_iff.1 (by rw [len_list]; omega)) w hG
end Go.Proofs.YtamhmpgaapgmbaaDoor
