import Derived.Test.YtflddokngplgiaaDoorA21M
import Derived.Deep.MidRow
namespace Go.Proofs.YtflddokngplgiaaDoor
open Go.RowKit
/-- what a text of version 6 is -/
def v6P (l : List UInt8) : Option (List Nat) :=
  if 45 < l.length then none
  else if (Lib.cut l [58, 58]).2.2 = true then shortP (Lib.cut l [58, 58]).1 (Lib.cut l [58, 58]).2.1
  else match pcs (mixL l) with
    | none => none
    | some x => if x.length = 8 then some x else none
theorem hexV_lt (p : List UInt8) : hexV p < 65536 := by
  unfold hexV
  rcases h : hexP p with _ | n
  · decide
  · exact (hexP_lt h).1
theorem pcs_lt {l : List UInt8} {x : List Nat} (h : pcs l = some x) : ∀ n ∈ x, n < 65536 := by
  unfold pcs at h
  split at h
  · cases h; intro n hn; cases hn
  · split at h
    · cases h
      intro n hn
      obtain ⟨p, _, rfl⟩ := List.mem_map.1 hn
      exact hexV_lt p
    · cases h
theorem shortP_len {a b : List UInt8} {x : List Nat} (h : shortP a b = some x) : x.length = 8 ∧ ∀ n ∈ x, n < 65536 := by
  unfold shortP at h
  rcases hx : pcs a with _ | u
  · rw [hx] at h; cases h
  · rw [hx] at h
    rcases hy : pcs (mixL b) with _ | v
    · rw [hy] at h; cases h
    · rw [hy] at h
      simp only at h
      split at h
      · cases h
        refine ⟨by simp; omega, fun n hn => ?_⟩
        rcases List.mem_append.1 hn with hn | hn
        · rcases List.mem_append.1 hn with hn | hn
          · exact pcs_lt hx n hn
          · rw [List.eq_of_mem_replicate hn]; omega
        · exact pcs_lt hy n hn
      · cases h
theorem v6P_len {l : List UInt8} {x : List Nat} (h : v6P l = some x) : x.length = 8 ∧ ∀ n ∈ x, n < 65536 := by
  unfold v6P at h
  split at h
  · cases h
  · split at h
    · exact shortP_len h
    · rcases hx : pcs (mixL l) with _ | u
      · rw [hx] at h; cases h
      · rw [hx] at h
        simp only at h
        split at h
        · cases h; exact ⟨by assumption, pcs_lt hx⟩
        · cases h
theorem arrB_size {o : Option (List Nat)} (h : ∀ x, o = some x → x.length = 8) : ∃ cs : Array Value, ∃ b : Bool, arrB o = .returned (.tuple #[.agg cs, .bool b]) ∧ cs.size = 8 ∧ cs.all (·.oneCell') = true := by
  cases o with
  | none => exact ⟨Z8, false, rfl, rfl, Z8_one⟩
  | some x => exact ⟨A8 x, true, rfl, by rw [A8_size, h x rfl], A8_one x⟩
theorem cut_len (l : List UInt8) : (Lib.cut l [58, 58]).1.length ≤ l.length ∧ (Lib.cut l [58, 58]).2.1.length ≤ l.length := by
  unfold Lib.cut
  split
  · exact ⟨List.length_take_le' _ _, by simp⟩
  · exact ⟨Nat.le_refl _, by simp⟩
theorem ba_size (l : List UInt8) : (⟨l.toArray⟩ : ByteArray).size = l.length := by simp [ByteArray.size]
set_option maxHeartbeats 8000000 in
set_option maxRecDepth 100000 in
theorem addr_long (s : ByteArray) (hs : s.size ≤ 140737488355328) (w : World) (h : 45 < s.size) :
    Calls Tryd.prog 28 #[.string s] w fun e w' => e = arrB none ∧ Below w.heap.size w w' := by
  have hi : (45 : Int) < (s.size : Int) := by omega
  have HH := Lib.hid (Has.new w (.cells Z8 27))
  go_enter Tryd.func28, Tryd.ntmps28
  go_wp2_with (refine wpList_store_row rfl 27 (.tmp 2) (.tmp 12) rfl w.heap.size Z8 rfl rfl 27 Z8 HH.out info27 rfl Z8_one ?_)
  exact bodyPost_ret (results_arr rfl _ _ w.heap.size Z8 rfl (setRow_heap _ _ _ _ 27 (0, 0) HH.out) rfl) rfl ⟨rfl, below_setRow (bnew _ _) (Nat.le_refl _) _⟩
theorem cut_is (s : ByteArray) (hs : s.size ≤ 45) (w : World) (hG : Glob w) :
    Calls Tryd.prog 41 #[.string s, .string ⟨#[58, 58]⟩] w fun e w' => e = .returned (.tuple #[.string ⟨(Lib.cut s.data.toList [58, 58]).1.toArray⟩, .string ⟨(Lib.cut s.data.toList [58, 58]).2.1.toArray⟩, .bool (Lib.cut s.data.toList [58, 58]).2.2]) ∧ ∃ n, w' = w.drewN n := by
  obtain ⟨m, hm⟩ := hG.mlen
  exact Tryd.strings_Cut s ⟨#[58, 58]⟩ m w (by omega) hm
set_option maxHeartbeats 8000000 in
set_option maxRecDepth 100000 in
theorem addr_cut (s : ByteArray) (hs : s.size ≤ 45) (w : World) (hG : Glob w) (h : (Lib.cut s.data.toList [58, 58]).2.2 = true) :
    Calls Tryd.prog 28 #[.string s] w fun e w' => e = arrB (shortP (Lib.cut s.data.toList [58, 58]).1 (Lib.cut s.data.toList [58, 58]).2.1) ∧ Below w.heap.size w w' := by
  have HH := Lib.hid (Has.new w (.cells Z8 27))
  have HG := Lib.hid (hG.to (bnew w (.cells Z8 27)))
  obtain ⟨ca, cb⟩ := cut_len s.data.toList
  have hl := len_list s
  have HT := Lib.hid h
  have HC := Lib.hid (cut_is s hs _ HG.out)
  have HS := Lib.hid (fun W hW => short_is ⟨(Lib.cut s.data.toList [58, 58]).1.toArray⟩ ⟨(Lib.cut s.data.toList [58, 58]).2.1.toArray⟩ (by rw [ba_size]; omega) (by rw [ba_size]; omega) W hW)
  obtain ⟨cs, b, hB, hcs, hone⟩ := arrB_size (o := shortP (Lib.cut s.data.toList [58, 58]).1 (Lib.cut s.data.toList [58, 58]).2.1) (fun x hx => (shortP_len hx).1)
  have HB := Lib.hid hB
  have HCS := Lib.hid hcs
  have hsi : (s.size : Int) ≤ 45 := by omega
  clear ca cb hl h hG hB hcs
  go_enter Tryd.func28, Tryd.ntmps28
  go_wp2_with fail
  refine HC.out.mono ?_
  rintro e w1 ⟨rfl, n, rfl⟩
  rw [HT.out]
  go_wp2_with fail
  refine (HS.out _ (HG.out.dn n)).mono ?_
  rintro e w2 ⟨he, hb⟩
  have he' := he.trans HB.out
  subst he'
  have HHe := Lib.hid he
  have HB2 := Lib.hid (bel2 (below_dn (bnew w (.cells Z8 27)) n) hb)
  have HH2 := Lib.hid (show Has w2 w.heap.size (.cells Z8 27) from Has.to (w := (w.alloc (.cells Z8 27)).drewN n) HH.out hb)
  clear hb he
  go_wp2_with (refine wpList_store_row rfl 27 (.tmp 2) (.tmp 23) rfl w.heap.size cs rfl rfl 27 Z8 HH2.out (by rw [HCS.out]; exact info27) (by rw [HCS.out]; rfl) hone ?_)
  exact bodyPost_ret (results_arr (fn := Tryd.f28) (p := 2) (q := 3) rfl _ _ w.heap.size cs rfl (setRow_heap _ _ _ _ 27 (0, 0) HH2.out) HCS.out) rfl ⟨HB.out.symm, below_setRow HB2.out (Nat.le_refl _) _⟩
theorem run_arrayAt8 (g c : Nat) (W : World) : (Instr.arrayAt 27 (.slice (some ⟨g, 0, none⟩) 8 c)).run Tryd.prog W = .ok (.pointer (some ⟨g, 0, none⟩)) W := by
  simp [Instr.arrayAt, run_underlying Tryd.underlying27, go_sem]
theorem cut_false {l : List UInt8} (h : ¬ (Lib.cut l [58, 58]).2.2 = true) : (Lib.cut l [58, 58]).2.2 = false := by simpa using h
set_option maxHeartbeats 8000000 in
set_option maxRecDepth 100000 in
theorem addr_no (s : ByteArray) (hs : s.size ≤ 45) (w : World) (hG : Glob w) (h : (Lib.cut s.data.toList [58, 58]).2.2 = false) (hp : pcs (mixL s.data.toList) = none) :
    Calls Tryd.prog 28 #[.string s] w fun e w' => e = arrB none ∧ Below w.heap.size w w' := by
  have HH := Lib.hid (Has.new w (.cells Z8 27))
  have HG := Lib.hid (hG.to (bnew w (.cells Z8 27)))
  have HT := Lib.hid h
  have HC := Lib.hid (cut_is s hs _ HG.out)
  have HM := Lib.hid (fun W hW => mixed_is s (by omega) W hW)
  have HQ := Lib.hid (fun W hW => pieces_is ⟨(mixL s.data.toList).toArray⟩ (mix_size s (by omega)) W hW)
  have HP := Lib.hid hp
  have hsi : (s.size : Int) ≤ 45 := by omega
  clear h hG hp
  go_enter Tryd.func28, Tryd.ntmps28
  go_wp2_with fail
  refine HC.out.mono ?_
  rintro e w1 ⟨rfl, n, rfl⟩
  rw [HT.out]
  go_wp2_with fail
  refine (HM.out _ (HG.out.dn n)).mono ?_
  rintro e w2 ⟨rfl, hb2⟩
  have HB2 := Lib.hid (bel2 (below_dn (bnew w (.cells Z8 27)) n) hb2)
  have HH2 := Lib.hid (show Has w2 w.heap.size (.cells Z8 27) from Has.to (w := (w.alloc (.cells Z8 27)).drewN n) HH.out hb2)
  have HG2 := Lib.hid ((HG.out.dn n).to hb2)
  clear hb2
  go_wp2_with fail
  refine (HQ.out _ HG2.out).mono ?_
  rintro e w3 ⟨he, hb3⟩
  rw [HP.out] at he
  subst he
  have HB3 := Lib.hid (bel2 HB2.out hb3)
  have HH3 := Lib.hid (HH2.out.to hb3)
  clear hb3
  go_wp2_with (refine wpList_store_row rfl 27 (.tmp 2) (.tmp 38) rfl w.heap.size Z8 rfl rfl 27 Z8 HH3.out info27 rfl Z8_one ?_)
  exact bodyPost_ret (results_arr rfl _ _ w.heap.size Z8 rfl (setRow_heap _ _ _ _ 27 (0, 0) HH3.out) rfl) rfl ⟨rfl, below_setRow HB3.out (Nat.le_refl _) _⟩
set_option maxHeartbeats 8000000 in
set_option maxRecDepth 100000 in
theorem addr_not8 (s : ByteArray) (hs : s.size ≤ 45) (w : World) (hG : Glob w) (h : (Lib.cut s.data.toList [58, 58]).2.2 = false) (x : List Nat) (hp : pcs (mixL s.data.toList) = some x) (h8 : ¬ x.length = 8) :
    Calls Tryd.prog 28 #[.string s] w fun e w' => e = arrB none ∧ Below w.heap.size w w' := by
  have HH := Lib.hid (Has.new w (.cells Z8 27))
  have HG := Lib.hid (hG.to (bnew w (.cells Z8 27)))
  have HT := Lib.hid h
  have HC := Lib.hid (cut_is s hs _ HG.out)
  have HM := Lib.hid (fun W hW => mixed_is s (by omega) W hW)
  have HQ := Lib.hid (fun W hW => pieces_is ⟨(mixL s.data.toList).toArray⟩ (mix_size s (by omega)) W hW)
  have HP := Lib.hid hp
  have hsi : (s.size : Int) ≤ 45 := by omega
  have h8i : ((x.length : Int) == 8) = false := by rw [beq_eq_false_iff_ne]; omega
  have h8j : ((x.length : Int) != 8) = true := by rw [bne_iff_ne]; omega
  clear h hG hp h8
  go_enter Tryd.func28, Tryd.ntmps28
  go_wp2_with fail
  refine HC.out.mono ?_
  rintro e w1 ⟨rfl, n, rfl⟩
  rw [HT.out]
  go_wp2_with fail
  refine (HM.out _ (HG.out.dn n)).mono ?_
  rintro e w2 ⟨rfl, hb2⟩
  have HB2 := Lib.hid (bel2 (below_dn (bnew w (.cells Z8 27)) n) hb2)
  have HH2 := Lib.hid (show Has w2 w.heap.size (.cells Z8 27) from Has.to (w := (w.alloc (.cells Z8 27)).drewN n) HH.out hb2)
  have HG2 := Lib.hid ((HG.out.dn n).to hb2)
  clear hb2
  go_wp2_with fail
  refine (HQ.out _ HG2.out).mono ?_
  rintro e w3 ⟨he, hb3⟩
  rw [HP.out] at he
  obtain ⟨v3, rfl, ho3⟩ := he
  obtain ⟨p3, c3, rfl⟩ := own_slice ho3
  have HB3 := Lib.hid (bel2 HB2.out hb3)
  have HH3 := Lib.hid (HH2.out.to hb3)
  clear hb3 ho3
  go_wp2_with (refine wpList_store_row rfl 27 (.tmp 2) (.tmp 38) rfl w.heap.size Z8 rfl rfl 27 Z8 HH3.out info27 rfl Z8_one ?_)
  exact bodyPost_ret (results_arr rfl _ _ w.heap.size Z8 rfl (setRow_heap _ _ _ _ 27 (0, 0) HH3.out) rfl) rfl ⟨rfl, below_setRow HB3.out (Nat.le_refl _) _⟩
set_option maxHeartbeats 8000000 in
set_option maxRecDepth 100000 in
theorem addr_eight (s : ByteArray) (hs : s.size ≤ 45) (w : World) (hG : Glob w) (h : (Lib.cut s.data.toList [58, 58]).2.2 = false) (x : List Nat) (hp : pcs (mixL s.data.toList) = some x) (h8 : x.length = 8) :
    Calls Tryd.prog 28 #[.string s] w fun e w' => e = arrB (some x) ∧ Below w.heap.size w w' := by
  have HH := Lib.hid (Has.new w (.cells Z8 27))
  have HG := Lib.hid (hG.to (bnew w (.cells Z8 27)))
  have HT := Lib.hid h
  have HC := Lib.hid (cut_is s hs _ HG.out)
  have HM := Lib.hid (fun W hW => mixed_is s (by omega) W hW)
  have HQ := Lib.hid (fun W hW => pieces_is ⟨(mixL s.data.toList).toArray⟩ (mix_size s (by omega)) W hW)
  have HP := Lib.hid hp
  have H8 := Lib.hid h8
  have hsi : (s.size : Int) ≤ 45 := by omega
  have hcs : (A8 x).size = 8 := by rw [A8_size, h8]
  have HCS := Lib.hid hcs
  clear h hG hp h8 hcs
  go_enter Tryd.func28, Tryd.ntmps28
  go_wp2_with fail
  refine HC.out.mono ?_
  rintro e w1 ⟨rfl, n, rfl⟩
  rw [HT.out]
  go_wp2_with fail
  refine (HM.out _ (HG.out.dn n)).mono ?_
  rintro e w2 ⟨rfl, hb2⟩
  have HB2 := Lib.hid (bel2 (below_dn (bnew w (.cells Z8 27)) n) hb2)
  have HH2 := Lib.hid (show Has w2 w.heap.size (.cells Z8 27) from Has.to (w := (w.alloc (.cells Z8 27)).drewN n) HH.out hb2)
  have HG2 := Lib.hid ((HG.out.dn n).to hb2)
  clear hb2
  go_wp2_with fail
  refine (HQ.out _ HG2.out).mono ?_
  rintro e w3 ⟨he, hb3⟩
  rw [HP.out] at he
  obtain ⟨v3, rfl, ho3⟩ := he
  have HB3 := Lib.hid (bel2 HB2.out hb3)
  have HH3 := Lib.hid (HH2.out.to hb3)
  clear hb3
  rcases own_cells ho3 with ⟨e0, _⟩ | ⟨g, c, rfl, hc⟩
  · exfalso; have := H8.out; rw [e0] at this; cases this
  have hra : w3.rangeAt g 0 (A8 x).toList := fun j v hj => by rw [Nat.zero_add]; exact hc j v (by simpa [A8, u16V] using hj)
  have HRA := Lib.hid hra
  have HO3 := Lib.hid ho3
  rw [H8.out]
  clear hra hc ho3
  have kA := run_arrayAt8 g c
  have hlen : (A8 x).toList.length = 8 := by rw [Array.length_toList]; exact HCS.out
  have HLEN := Lib.hid hlen
  clear hlen
  go_wp2_with (first
    | (refine wpList_load_mid rfl 27 (.tmp 40) rfl g 0 rfl (A8 x).toList _ HRA.out Tryd.underlying27 rfl (by rw [HLEN.out]; exact info27) ?_; simp only [Array.toArray_toList])
    | (refine wpList_store_row rfl 27 (.tmp 2) (.tmp 41) rfl w.heap.size (A8 x) rfl rfl 27 Z8 HH3.out (by rw [HCS.out]; exact info27) (by rw [HCS.out]; rfl) (A8_one _) ?_))
  exact bodyPost_ret (results_arr (fn := Tryd.f28) (p := 2) (q := 3) rfl _ _ w.heap.size (A8 x) rfl (setRow_heap _ _ _ _ 27 (0, 0) HH3.out) HCS.out) rfl ⟨rfl, below_setRow HB3.out (Nat.le_refl _) _⟩
theorem address_is (s : ByteArray) (hs : s.size ≤ 140737488355328) (w : World) (hG : Glob w) :
    Calls Tryd.prog 28 #[.string s] w fun e w' => e = arrB (v6P s.data.toList) ∧ Below w.heap.size w w' := by
  have hl := len_list s
  unfold v6P
  by_cases h45 : 45 < s.data.toList.length
  · rw [if_pos h45]; exact addr_long s hs w (by omega)
  rw [if_neg h45]
  by_cases hc : (Lib.cut s.data.toList [58, 58]).2.2 = true
  · rw [if_pos hc]; exact addr_cut s (by omega) w hG hc
  rw [if_neg hc]
  rcases hp : pcs (mixL s.data.toList) with _ | x
  · exact addr_no s (by omega) w hG (cut_false hc) hp
  · by_cases h8 : x.length = 8
    · simp only [if_pos h8]
      exact addr_eight s (by omega) w hG (cut_false hc) x hp h8
    · simp only [if_neg h8]
      exact addr_not8 s (by omega) w hG (cut_false hc) x hp h8
/-- what V6 answers -/
def v6E (o : Option (List Nat)) : Ending := match o with
  | none => .returned (.tuple #[.agg Z8, .int .i64 17])
  | some l => .returned (.tuple #[.agg (A8 l), .int .i64 0])
set_option maxHeartbeats 8000000 in
set_option maxRecDepth 100000 in
theorem v6_no (s : ByteArray) (hs : s.size ≤ 140737488355328) (w : World) (hG : Glob w) (h : v6P s.data.toList = none) :
    Calls Tryd.prog 12 #[.string s] w fun e w' => e = v6E none ∧ Below w.heap.size w w' := by
  have HC := Lib.hid (address_is s hs _ (hG.to (bnew w (.cells Z8 27))))
  have HN := Lib.hid h
  clear hG h
  go_enter Tryd.func12, Tryd.ntmps12
  go_wp2_with fail
  refine HC.out.mono ?_
  rintro e w1 ⟨he, hb⟩
  rw [HN.out] at he
  subst he
  have HB1 := Lib.hid (bel2 (bnew w (.cells Z8 27)) hb)
  have h1 := Has.to (Has.new w (.cells Z8 27)) hb
  have hne : w.heap.size ≠ w1.heap.size := by have := h1.lt; omega
  have HH2 := Lib.hid (Has.new w1 (.cells Z8 27))
  have HH3 := Lib.hid (show Has ((w1.alloc (.cells Z8 27)).setRow w1.heap.size Z8) w.heap.size (.cells Z8 27) from (setRow_other _ _ _ _ hne).trans (h1.alloc _))
  have HB3 := Lib.hid (below_setRow (HB1.out.alloc HB1.out.size (.cells Z8 27)) HB1.out.size Z8)
  clear hb h1 hne
  simp only [arrB]
  go_wp2_with (first
    | (refine wpList_store_row rfl 27 (.tmp 4) (.tmp 9) rfl w1.heap.size Z8 rfl rfl 27 Z8 HH2.out info27 rfl Z8_one ?_)
    | (refine wpList_store_row rfl 27 (.tmp 2) (.tmp 13) rfl w.heap.size Z8 rfl rfl 27 Z8 HH3.out info27 rfl Z8_one ?_))
  exact bodyPost_ret (results_arr (fn := Tryd.f12) (p := 2) (q := 3) rfl _ _ w.heap.size Z8 rfl (setRow_heap _ _ _ _ 27 (0, 0) HH3.out) rfl) rfl ⟨rfl, below_setRow HB3.out (Nat.le_refl _) _⟩
set_option maxHeartbeats 8000000 in
set_option maxRecDepth 100000 in
theorem v6_yes (s : ByteArray) (hs : s.size ≤ 140737488355328) (w : World) (hG : Glob w) (x : List Nat) (h : v6P s.data.toList = some x) :
    Calls Tryd.prog 12 #[.string s] w fun e w' => e = v6E (some x) ∧ Below w.heap.size w w' := by
  have HC := Lib.hid (address_is s hs _ (hG.to (bnew w (.cells Z8 27))))
  have HN := Lib.hid h
  have hcs : (A8 x).size = 8 := by rw [A8_size, (v6P_len h).1]
  have HCS := Lib.hid hcs
  clear hG h hcs
  go_enter Tryd.func12, Tryd.ntmps12
  go_wp2_with fail
  refine HC.out.mono ?_
  rintro e w1 ⟨he, hb⟩
  rw [HN.out] at he
  subst he
  have HB1 := Lib.hid (bel2 (bnew w (.cells Z8 27)) hb)
  have h1 := Has.to (Has.new w (.cells Z8 27)) hb
  have hne : w.heap.size ≠ w1.heap.size := by have := h1.lt; omega
  have HH2 := Lib.hid (Has.new w1 (.cells Z8 27))
  have HH3 := Lib.hid (show Has ((w1.alloc (.cells Z8 27)).setRow w1.heap.size (A8 x)) w.heap.size (.cells Z8 27) from (setRow_other _ _ _ _ hne).trans (h1.alloc _))
  have HH4 := Lib.hid (show Has ((w1.alloc (.cells Z8 27)).setRow w1.heap.size (A8 x)) w1.heap.size (.cells (A8 x) 27) from setRow_heap _ _ _ _ 27 (0, 0) HH2.out)
  have HB3 := Lib.hid (below_setRow (HB1.out.alloc HB1.out.size (.cells Z8 27)) HB1.out.size (A8 x))
  clear hb h1 hne
  simp only [arrB]
  go_wp2_with (first
    | (refine wpList_store_row rfl 27 (.tmp 4) (.tmp 9) rfl w1.heap.size (A8 x) rfl rfl 27 Z8 HH2.out (by rw [HCS.out]; exact info27) (by rw [HCS.out]; rfl) (A8_one _) ?_)
    | (refine wpList_load_row rfl 27 (.tmp 4) rfl w1.heap.size rfl 27 (A8 x) (0, 0) _ HH4.out Tryd.underlying27 rfl (by rw [HCS.out]; exact info27) ?_)
    | (refine wpList_store_row rfl 27 (.tmp 2) (.tmp 14) rfl w.heap.size (A8 x) rfl rfl 27 Z8 HH3.out (by rw [HCS.out]; exact info27) (by rw [HCS.out]; rfl) (A8_one _) ?_))
  exact bodyPost_ret (results_arr (fn := Tryd.f12) (p := 2) (q := 3) rfl _ _ w.heap.size (A8 x) rfl (setRow_heap _ _ _ _ 27 (0, 0) HH3.out) HCS.out) rfl ⟨rfl, below_setRow HB3.out (Nat.le_refl _) _⟩
theorem v6_is (s : ByteArray) (hs : s.size ≤ 140737488355328) (w : World) (hG : Glob w) :
    Calls Tryd.prog 12 #[.string s] w fun e w' => e = v6E (v6P s.data.toList) ∧ Below w.heap.size w w' := by
  rcases h : v6P s.data.toList with _ | x
  · exact v6_no s hs w hG h
  · exact v6_yes s hs w hG x h
end Go.Proofs.YtflddokngplgiaaDoor
namespace Go.Proofs.YtflddokngplgiaaDoor
theorem lv1 : v4O [48, 120, 55, 102, 46, 49] = some 2130706433 := by decide +kernel
theorem lv2 : v4O [49, 46, 50, 46, 51, 46, 50, 53, 54] = none := by decide +kernel
theorem lv3 : v6P [49, 58, 48, 58, 48, 58, 50, 58, 48, 58, 48, 58, 48, 58, 51] = some [1, 0, 0, 2, 0, 0, 0, 3] := by decide +kernel
theorem lv4 : tv6 [1, 0, 0, 2, 0, 0, 0, 3] = [49, 58, 48, 58, 48, 58, 50, 58, 58, 51] := by decide +kernel
theorem lv5 : tv4 2130706433 = [49, 50, 55, 46, 48, 46, 48, 46, 49] := by decide +kernel
theorem lv6 : endsB [97, 46, 49] = true := by decide +kernel
theorem lv7 : endsB [49, 46, 97] = false := by decide +kernel
end Go.Proofs.YtflddokngplgiaaDoor
