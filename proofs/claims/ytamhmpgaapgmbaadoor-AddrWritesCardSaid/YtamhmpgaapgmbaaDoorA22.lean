import Derived.Test.YtamhmpgaapgmbaaDoorA21
namespace Go.Proofs.YtamhmpgaapgmbaaDoor
open Go.RowKit
theorem own_slice {w : World} {B : Nat} {v : Value} {n : Nat} {xs : List Value} (h : w.ownsRow B 26 1 v n xs) : ∃ p c, v = .slice p n c := by
  rcases h.2 with ⟨rfl, hn⟩ | ⟨g, cap, cur, rfl, _⟩
  · exact ⟨_, _, by rw [hn]⟩
  · exact ⟨_, _, rfl⟩
theorem pcs_len {l : List UInt8} {x : List Nat} (h : pcs l = some x) : x.length ≤ l.length + 1 := by
  unfold pcs at h
  split at h
  · cases h; simp
  · split at h
    · cases h; rw [List.length_map]; exact partsAt_count 58 l
    · cases h
theorem short_list (x y : List Nat) (h7 : x.length + y.length ≤ 7) : List.take (8 - y.length) (zer8.take 0 ++ x ++ zer8.drop (0 + x.length)) ++ y ++ List.drop (8 - y.length + y.length) (zer8.take 0 ++ x ++ zer8.drop (0 + x.length)) = x ++ List.replicate (8 - x.length - y.length) 0 ++ y := by
  have e : zer8 = List.replicate 8 0 := rfl
  rw [e, List.take_zero, List.nil_append, Nat.zero_add, List.drop_replicate, show 8 - y.length + y.length = 8 by omega]
  rw [List.take_append, List.take_of_length_le (by omega), List.take_replicate, List.drop_of_length_le (by simp; omega), List.append_nil]
  congr 3
  omega
set_option maxHeartbeats 8000000 in
set_option maxRecDepth 100000 in
theorem short_no2 (a b : ByteArray) (ha : a.size ≤ 500) (hb : b.size ≤ 500) (w : World) (hG : Glob w) (x : List Nat) (hx : pcs a.data.toList = some x) (hy : pcs (mixL b.data.toList) = none) :
    Calls Tryd.prog 42 #[.string a, .string b] w fun e w' => e = arrB none ∧ Below w.heap.size w w' := by
  have HC := Lib.hid (pieces_is a (by omega) _ (hG.to (bnew w (.cells Z8 27))))
  have HM := Lib.hid (fun W hW => mixed_is b (by omega) W hW)
  have HQ := Lib.hid (fun W hW => pieces_is ⟨(mixL b.data.toList).toArray⟩ (mix_size b hb) W hW)
  have HG := Lib.hid hG
  have HX := Lib.hid hx
  have HY := Lib.hid hy
  clear hG hx hy
  go_enter Tryd.func42, Tryd.ntmps42
  go_wp2_with fail
  refine HC.out.mono ?_
  rintro e w1 ⟨he, hb1⟩
  rw [HX.out] at he
  obtain ⟨v1, rfl, ho1⟩ := he
  obtain ⟨p1, c1, rfl⟩ := own_slice ho1
  have HO1 := Lib.hid ho1
  have HB1 := Lib.hid (bel2 (bnew w (.cells Z8 27)) hb1)
  have HH1 := Lib.hid (Has.to (Has.new w (.cells Z8 27)) hb1)
  clear hb1 ho1
  go_wp2_with fail
  refine (HM.out _ (HG.out.to HB1.out)).mono ?_
  rintro e w2 ⟨rfl, hb2⟩
  have HB2 := Lib.hid (bel2 HB1.out hb2)
  have HH2 := Lib.hid (HH1.out.to hb2)
  have HO2 := Lib.hid (own_to HO1.out hb2)
  clear hb2
  go_wp2_with fail
  refine (HQ.out _ (HG.out.to HB2.out)).mono ?_
  rintro e w3 ⟨he, hb3⟩
  rw [HY.out] at he
  subst he
  have HB3 := Lib.hid (bel2 HB2.out hb3)
  have HH := Lib.hid (HH2.out.to hb3)
  clear hb3
  go_wp2_with (refine wpList_store_row rfl 27 (.tmp 4) (.tmp 34) rfl w.heap.size Z8 rfl rfl 27 Z8 HH.out info27 rfl Z8_one ?_)
  exact bodyPost_ret (results_arr rfl _ _ w.heap.size Z8 rfl (setRow_heap _ _ _ _ 27 (0, 0) HH.out) rfl) rfl ⟨rfl, below_setRow HB3.out (Nat.le_refl _) _⟩
set_option maxHeartbeats 8000000 in
set_option maxRecDepth 100000 in
theorem short_no3 (a b : ByteArray) (ha : a.size ≤ 500) (hb : b.size ≤ 500) (w : World) (hG : Glob w) (x : List Nat) (hx : pcs a.data.toList = some x) (y : List Nat) (hy : pcs (mixL b.data.toList) = some y) (h7 : ¬ x.length + y.length ≤ 7) :
    Calls Tryd.prog 42 #[.string a, .string b] w fun e w' => e = arrB none ∧ Below w.heap.size w w' := by
  have HC := Lib.hid (pieces_is a (by omega) _ (hG.to (bnew w (.cells Z8 27))))
  have HM := Lib.hid (fun W hW => mixed_is b (by omega) W hW)
  have HQ := Lib.hid (fun W hW => pieces_is ⟨(mixL b.data.toList).toArray⟩ (mix_size b hb) W hW)
  have HG := Lib.hid hG
  have HX := Lib.hid hx
  have HY := Lib.hid hy
  have hl1 := pcs_len hx
  have hl2 := pcs_len hy
  have hl3 := mix_len b.data.toList
  rw [len_list] at hl1 hl3
  have h7i : 7 < (x.length : Int) + (y.length : Int) := by omega
  have hxl : x.length ≤ 1000 := by omega
  have hyl : y.length ≤ 1000 := by omega
  clear hl1 hl2 hl3 h7
  clear hG hx hy
  go_enter Tryd.func42, Tryd.ntmps42
  go_wp2_with fail
  refine HC.out.mono ?_
  rintro e w1 ⟨he, hb1⟩
  rw [HX.out] at he
  obtain ⟨v1, rfl, ho1⟩ := he
  obtain ⟨p1, c1, rfl⟩ := own_slice ho1
  have HO1 := Lib.hid ho1
  have HB1 := Lib.hid (bel2 (bnew w (.cells Z8 27)) hb1)
  have HH1 := Lib.hid (Has.to (Has.new w (.cells Z8 27)) hb1)
  clear hb1 ho1
  go_wp2_with fail
  refine (HM.out _ (HG.out.to HB1.out)).mono ?_
  rintro e w2 ⟨rfl, hb2⟩
  have HB2 := Lib.hid (bel2 HB1.out hb2)
  have HH2 := Lib.hid (HH1.out.to hb2)
  have HO2 := Lib.hid (own_to HO1.out hb2)
  clear hb2
  go_wp2_with fail
  refine (HQ.out _ (HG.out.to HB2.out)).mono ?_
  rintro e w3 ⟨he, hb3⟩
  rw [HY.out] at he
  obtain ⟨v3, rfl, ho3⟩ := he
  obtain ⟨p3, c3, rfl⟩ := own_slice ho3
  clear ho3
  have HB3 := Lib.hid (bel2 HB2.out hb3)
  have HH := Lib.hid (HH2.out.to hb3)
  clear hb3
  go_wp2_with (refine wpList_store_row rfl 27 (.tmp 4) (.tmp 34) rfl w.heap.size Z8 rfl rfl 27 Z8 HH.out info27 rfl Z8_one ?_)
  exact bodyPost_ret (results_arr rfl _ _ w.heap.size Z8 rfl (setRow_heap _ _ _ _ 27 (0, 0) HH.out) rfl) rfl ⟨rfl, below_setRow HB3.out (Nat.le_refl _) _⟩
set_option maxHeartbeats 8000000 in
set_option maxRecDepth 100000 in
theorem short_yes (a b : ByteArray) (ha : a.size ≤ 500) (hb : b.size ≤ 500) (w : World) (hG : Glob w) (x : List Nat) (hx : pcs a.data.toList = some x) (y : List Nat) (hy : pcs (mixL b.data.toList) = some y) (h7 : x.length + y.length ≤ 7) (R : List Nat) (hR : R = x ++ List.replicate (8 - x.length - y.length) 0 ++ y) :
    Calls Tryd.prog 42 #[.string a, .string b] w fun e w' => e = arrB (some R) ∧ Below w.heap.size w w' := by
  have HC := Lib.hid (pieces_is a (by omega) _ (hG.to (bnew w (.cells Z8 27))))
  have HM := Lib.hid (fun W hW => mixed_is b (by omega) W hW)
  have HQ := Lib.hid (fun W hW => pieces_is ⟨(mixL b.data.toList).toArray⟩ (mix_size b hb) W hW)
  have HG := Lib.hid hG
  have HX := Lib.hid hx
  have HY := Lib.hid hy
  have HRR := Lib.hid hR
  clear hG hx hy hR
  go_enter Tryd.func42, Tryd.ntmps42
  go_wp2_with fail
  refine HC.out.mono ?_
  rintro e w1 ⟨he, hb1⟩
  rw [HX.out] at he
  obtain ⟨v1, rfl, ho1⟩ := he
  obtain ⟨p1, c1, rfl⟩ := own_slice ho1
  have HO1 := Lib.hid ho1
  have HB1 := Lib.hid (bel2 (bnew w (.cells Z8 27)) hb1)
  have HH1 := Lib.hid (Has.to (Has.new w (.cells Z8 27)) hb1)
  clear hb1 ho1
  go_wp2_with fail
  refine (HM.out _ (HG.out.to HB1.out)).mono ?_
  rintro e w2 ⟨rfl, hb2⟩
  have HB2 := Lib.hid (bel2 HB1.out hb2)
  have HH2 := Lib.hid (HH1.out.to hb2)
  have HO2 := Lib.hid (own_to HO1.out hb2)
  clear hb2
  go_wp2_with fail
  refine (HQ.out _ (HG.out.to HB2.out)).mono ?_
  rintro e w3 ⟨he, hb3⟩
  rw [HY.out] at he
  obtain ⟨v3, rfl, ho3⟩ := he
  obtain ⟨p3, c3, rfl⟩ := own_slice ho3
  have HB3 := Lib.hid (bel2 HB2.out hb3)
  have HH3 := Lib.hid (HH2.out.to hb3)
  have HO3 := Lib.hid (own_to HO2.out hb3)
  have HP3 := Lib.hid ho3
  clear hb3 ho3
  have h7i : (x.length : Int) + (y.length : Int) ≤ 7 := by omega
  have h4 : Has (w3.alloc (.cells Z8 27)) w3.heap.size (.cells (A8 zer8) 27) := Has.new w3 _
  obtain ⟨w4, k4, HW4⟩ := copy_arr w3.heap.size 0 zer8 x rfl _ h4 _ _ (World.ownsRow.alloc HO3.out (.cells Z8 27)) (by omega)
  have h5 := HW4.out.1
  have hb4 : Below w3.heap.size w3 w4 := (bnew w3 (.cells Z8 27)).trans (HW4.out.2.2 w3.heap.size (Nat.le_refl _))
  have hl5 : (zer8.take 0 ++ x ++ zer8.drop (0 + x.length)).length = 8 := by simp [zer8]; omega
  have HP4 := own_to HP3.out hb4
  obtain ⟨w5, k5, HW5⟩ := copy_arr w3.heap.size (8 - y.length) _ y hl5 w4 h5 _ _ HP4 (by omega)
  have ksl := slice8_all w3.heap.size
  have ksr := slice8_l w3.heap.size (8 - y.length) (by omega)
  have hb5 : Below w.heap.size w w5 := (HB3.out.trans (hb4.mono HB3.out.size)).trans (HW5.out.2.2 _ HB3.out.size)
  have HB5 := Lib.hid hb5
  have HR := Lib.hid (show Has w5 w.heap.size (.cells Z8 27) from HW5.out.2.1 _ _ (by have := HH3.out.lt; omega) (HH3.out.to hb4))
  clear h4 h5 hb4 HP4 hb5
  have hl6 : (List.take (8 - y.length) (zer8.take 0 ++ x ++ zer8.drop (0 + x.length)) ++ y ++ List.drop (8 - y.length + y.length) (zer8.take 0 ++ x ++ zer8.drop (0 + x.length))) = x ++ List.replicate (8 - x.length - y.length) 0 ++ y := short_list x y h7
  have HF := Lib.hid (show Has w5 w3.heap.size (.cells (A8 R) 27) by rw [HRR.out, ← hl6]; exact HW5.out.1)
  have hle : (A8 R).size = 8 := by rw [A8_size, HRR.out]; simp; omega
  have HLE := Lib.hid hle
  have hsub : ((8 - y.length : Nat) : Int) = 8 - (y.length : Int) := by omega
  rw [hsub] at ksr
  clear hl5 hl6 hle hsub
  go_wp2_with (first
    | (refine wpList_load_row rfl 27 (.tmp 9) rfl w3.heap.size rfl 27 _ (0, 0) _ HF.out Tryd.underlying27 rfl (by rw [HLE.out]; exact info27) ?_)
    | (refine wpList_store_row rfl 27 (.tmp 4) (.tmp 44) rfl w.heap.size _ rfl rfl 27 Z8 HR.out (by rw [HLE.out]; exact info27) (by rw [HLE.out]; rfl) (A8_one _) ?_))
  exact bodyPost_ret (results_arr rfl _ _ w.heap.size _ rfl (setRow_heap _ _ _ _ 27 (0, 0) HR.out) HLE.out) rfl ⟨rfl, below_setRow HB5.out (Nat.le_refl _) _⟩
theorem short_is (a b : ByteArray) (ha : a.size ≤ 500) (hb : b.size ≤ 500) (w : World) (hG : Glob w) :
    Calls Tryd.prog 42 #[.string a, .string b] w fun e w' => e = arrB (shortP a.data.toList b.data.toList) ∧ Below w.heap.size w w' := by
  unfold shortP
  rcases hx : pcs a.data.toList with _ | x
  · exact short_no1 a b ha w hG hx
  · rcases hy : pcs (mixL b.data.toList) with _ | y
    · exact short_no2 a b ha hb w hG x hx hy
    · by_cases h7 : x.length + y.length ≤ 7
      · simp only [if_pos h7]
        exact short_yes a b ha hb w hG x hx y hy h7 _ rfl
      · simp only [if_neg h7]
        exact short_no3 a b ha hb w hG x hx y hy h7
end Go.Proofs.YtamhmpgaapgmbaaDoor
