import Derived.Test.YtamhmpgaapgmbaaDoorA24
import Derived.Test.YtamhmpgaapgmbaaDoorM4
namespace Go.Proofs.YtamhmpgaapgmbaaDoor
open Go.RowKit
theorem v6O_ans (o : Option (List Nat)) : (∃ n, o = some n) ∨ o = none := by cases o with
  | none => exact .inr rfl
  | some n => exact .inl ⟨n, rfl⟩
set_option maxHeartbeats 1000000 in
set_option maxRecDepth 100000 in
theorem AddrApart_walk (la : List Nat) (hla : la.length = 8) (bla : ∀ x ∈ la, x < 65536) (lb : List Nat) (hlb : lb.length = 8) (blb : ∀ x ∈ lb, x < 65536) (s : ByteArray) (hs : s.size ≤ 140737488351232) (w : World) (hG : Glob w) :
    Calls Tryd.prog 7 #[.agg (A8 la), .agg (A8 lb), .string s] w fun e w' => e = .returned (.bool true) ∧ Below w.heap.size w w' := by
  have HG := Lib.hid hG
  have HLA := Lib.hid hla
  have HBA := Lib.hid bla
  have HLB := Lib.hid hlb
  have HBB := Lib.hid blb
  have hm0 : Tryd.prog.follows .mixedOrders = true := by kernel_rfl
  have HLEA := Lib.hid (show (Tryd.prog.info? 27).map (·.size) = some (A8 la).size by rw [A8_size, hla]; exact info27)
  have HLEB := Lib.hid (show (Tryd.prog.info? 27).map (·.size) = some (A8 lb).size by rw [A8_size, hlb]; exact info27)
  obtain ⟨sa, hsa⟩ : ∃ t : ByteArray, (⟨(tv6 la).toArray⟩ : ByteArray) = t := ⟨_, rfl⟩
  obtain ⟨sb, hsb⟩ : ∃ t : ByteArray, (⟨(tv6 lb).toArray⟩ : ByteArray) = t := ⟨_, rfl⟩
  have HSA := Lib.hid hsa
  have HSB := Lib.hid hsb
  obtain ⟨e, he⟩ : ∃ e : Bool, decide (la = lb) = e := ⟨_, rfl⟩
  have k2 : ∀ W, (binOp .eql 27 (.agg (A8 la)) (.agg (A8 lb))).run Tryd.prog W = .ok (.bool e) W := fun W => by rw [eq8 la lb hla hlb bla blb, he]
  have k1 : (sa.toList == sb.toList) = e := by
    rw [← he, ← hsa, ← hsb, ByteArray.toList_eq, ByteArray.toList_eq]
    show (tv6 la == tv6 lb) = _
    rw [Bool.eq_iff_iff, beq_iff_eq, v6_inj hla hlb bla blb, decide_eq_true_iff]
  have k3 : (e != e) = false := by simp
  have k4 : (e == e) = true := by simp
  have H0 := Lib.hid (Has.new w (.cells (A8 la) 27))
  have H1 := Lib.hid (Has.new (w.alloc (.cells (A8 la) 27)) (.cells (A8 lb) 27))
  have H01 := Lib.hid ((Has.new w (.cells (A8 la) 27)).alloc (.cells (A8 lb) 27))
  have HB0 := Lib.hid ((bnew w (.cells (A8 la) 27)).alloc (by rw [World.size_alloc]; omega) (.cells (A8 lb) 27))
  clear hG hla bla hlb blb hsa hsb he
  go_enter Tryd.func7, Tryd.ntmps7
  go_wp2_with fail
  refine (lives_is _ (HG.out.to HB0.out)).mono ?_
  rintro e1 w1 ⟨rfl, hb⟩
  have HB1 := Lib.hid (bel2 HB0.out hb)
  have HA1 := Lib.hid (H01.out.to hb)
  have HC1 := Lib.hid (H1.out.to hb)
  clear hb
  go_wp2_with fail
  have HP := Lib.hid (show ∀ p : Later w1, Has p.v w.heap.size (.cells (A8 la) 27) ∧ Has p.v (w.heap.size + 1) (.cells (A8 lb) 27) ∧ Glob p.v from fun p => ⟨HA1.out.to p.h, (show Has w1 (w.heap.size + 1) (.cells (A8 lb) 27) by have := HC1.out; rwa [World.size_alloc] at this).to p.h, (HG.out.to HB1.out).to p.h⟩)
  have HTA := Lib.hid (show ∀ p : Later w1, Calls Tryd.prog 19 #[.agg (A8 la)] p.v fun e w' => e = .returned (.string sa) ∧ Below p.v.heap.size p.v w' from fun p => by rw [← HSA.out]; exact textV6_is la HLA.out HBA.out _ (HP.out p).2.2)
  have HTB := Lib.hid (show ∀ p : Later w1, Calls Tryd.prog 19 #[.agg (A8 lb)] p.v fun e w' => e = .returned (.string sb) ∧ Below p.v.heap.size p.v w' from fun p => by rw [← HSB.out]; exact textV6_is lb HLB.out HBB.out _ (HP.out p).2.2)
  refine wp_region_quiet_later hm0 (by kernel_rfl) ?_
  refine qload (by rfl) 27 (.tmp 3) rfl w.heap.size rfl 27 (A8 la) _ (fun w' ⟨p, e⟩ => e ▸ (HP.out p).1) Tryd.underlying27 rfl HLEA.out ?_
  quiet_step ((go_at_call 19; exact Calls.later_of (HTA.out _)))
  refine qload (by rfl) 27 (.tmp 4) rfl (w.heap.size + 1) rfl 27 (A8 lb) _ (fun w' ⟨p, e⟩ => e ▸ (HP.out p).2.1) Tryd.underlying27 rfl HLEB.out ?_
  quiet_step ((go_at_call 19; exact Calls.later_of (HTB.out _)))
  quiet_step (fail)
  refine qload (by rfl) 27 (.tmp 3) rfl w.heap.size rfl 27 (A8 la) _ (fun w' ⟨p, e⟩ => e ▸ (HP.out p).1) Tryd.underlying27 rfl HLEA.out ?_
  refine qload (by rfl) 27 (.tmp 4) rfl (w.heap.size + 1) rfl 27 (A8 lb) _ (fun w' ⟨p, e⟩ => e ▸ (HP.out p).2.1) Tryd.underlying27 rfl HLEB.out ?_
  quiet_step (fail)
  quiet_step (fail)
  refine wpQuiet_nil ?_
  rintro _ ⟨p, rfl⟩
  have HB2 := Lib.hid (bel2 HB1.out p.h)
  have HG2 := Lib.hid (HP.out p).2.2
  clear k1 k2 k3 k4
  have keq0 : ∀ W, (binOp .eql 27 (.agg Z8) (.agg Z8)).run Tryd.prog W = .ok (.bool true) W := fun W => by
    have := eq8 [0,0,0,0,0,0,0,0] [0,0,0,0,0,0,0,0] rfl rfl (by simp) (by simp) W
    simpa [A8] using this
  go_wp2_with fail
  refine (v6_is s (by omega) _ HG2.out).mono ?_
  rintro e3 w3 ⟨rfl, hb⟩
  have HB3 := Lib.hid (bel2 HB2.out hb)
  have HG3 := Lib.hid (HG2.out.to hb)
  clear hb
  have HN4 := Lib.hid (Has.new w3 (.cells Z8 27))
  rcases v6O_ans (v6P s.data.toList) with ⟨x, hx⟩ | hx
  · obtain ⟨hxl, hxb⟩ := v6P_len hx
    have HXL := Lib.hid hxl
    have HXB := Lib.hid hxb
    rw [hx]
    clear hx
    simp only [v6E]
    have keqx : ∀ W, (binOp .eql 27 (.agg (A8 x)) (.agg (A8 x))).run Tryd.prog W = .ok (.bool true) W := fun W => by rw [eq8 x x hxl hxl hxb hxb]; simp
    have HS8 := Lib.hid (show (A8 x).size = 8 by rw [A8_size, hxl])
    have HR4 := Lib.hid (show Has ((w3.alloc (.cells Z8 27)).setRow w3.heap.size (A8 x)) w3.heap.size (.cells (A8 x) 27) from setRow_heap _ _ _ _ 27 (0, 0) HN4.out)
    have HB4 := Lib.hid (below_setRow (HB3.out.alloc HB3.out.size (.cells Z8 27)) HB3.out.size (A8 x))
    have HG4 := Lib.hid (HG.out.to HB4.out)
    clear hxl hxb
    go_wp2_with (first
      | (refine wpList_store_row rfl 27 (.tmp 7) (.tmp 27) rfl w3.heap.size (A8 x) rfl rfl 27 Z8 HN4.out (by rw [HS8.out]; exact info27) (by rw [HS8.out]; rfl) (A8_one x) ?_)
      | (refine gload rfl 27 (.tmp 7) rfl w3.heap.size rfl 27 (A8 x) _ HR4.out Tryd.underlying27 rfl (by rw [HS8.out]; exact info27) ?_))
    refine (textV6_is x HXL.out HXB.out _ HG4.out).mono ?_
    rintro e5 w5 ⟨rfl, hb⟩
    have HB5 := Lib.hid (bel2 HB4.out hb)
    have HG5 := Lib.hid (HG4.out.to hb)
    have HR5 := Lib.hid (HR4.out.to hb)
    clear hb
    obtain ⟨t, ht⟩ : ∃ t : ByteArray, (⟨(tv6 x).toArray⟩ : ByteArray) = t := ⟨_, rfl⟩
    have HTV := Lib.hid (show v6P t.data.toList = some x by rw [← ht]; exact v6_back HXL.out HXB.out)
    have HTS := Lib.hid (show t.size ≤ 39 by rw [← ht, ba_size]; exact tv6_len HXL.out HXB.out)
    have HTC := Lib.hid (show ∀ (k : Nat) (h : k < t.size), t[k] ≠ 46 ∧ ¬ (65 ≤ t[k].toNat ∧ t[k].toNat ≤ 90) by
      rw [← ht]; intro k h; refine tv6_chars (l := x) _ ?_
      show (tv6 x).toArray[k] ∈ tv6 x
      simp)
    rw [ht]
    clear ht
    go_wp2_with fail
    refine (v6_is t (by have := HTS.out; omega) _ HG5.out).mono ?_
    rintro e6 w6 ⟨rfl, hb⟩
    have HB6 := Lib.hid (bel2 HB5.out hb)
    have HG6 := Lib.hid (HG5.out.to hb)
    have HR6 := Lib.hid (HR5.out.to hb)
    clear hb
    rw [HTV.out]
    simp only [v6E]
    have HN7 := Lib.hid (Has.new w6 (.cells Z8 27))
    have hne : w3.heap.size ≠ w6.heap.size := by have := HR6.out.lt; omega
    have HR7 := Lib.hid (show Has ((w6.alloc (.cells Z8 27)).setRow w6.heap.size (A8 x)) w6.heap.size (.cells (A8 x) 27) from setRow_heap _ _ _ _ 27 (0, 0) HN7.out)
    have HH7 := Lib.hid (show Has ((w6.alloc (.cells Z8 27)).setRow w6.heap.size (A8 x)) w3.heap.size (.cells (A8 x) 27) from (setRow_other _ _ _ _ hne).trans (HR6.out.alloc _))
    have HB7 := Lib.hid (below_setRow (HB6.out.alloc HB6.out.size (.cells Z8 27)) HB6.out.size (A8 x))
    clear hne
    go_wp2_with (first
      | (refine wpList_store_row rfl 27 (.tmp 10) (.tmp 39) rfl w6.heap.size (A8 x) rfl rfl 27 Z8 HN7.out (by rw [HS8.out]; exact info27) (by rw [HS8.out]; rfl) (A8_one x) ?_))
    go_loopw [12] (fun i wr => ∃ k : Nat, k ≤ t.size ∧ i = .int .i64 k ∧ Hid (Has wr w6.heap.size (.cells (A8 x) 27) ∧ Has wr w3.heap.size (.cells (A8 x) 27) ∧ Below w.heap.size w wr)) (fun i _ => t.size - (intOf i).toNat)
    case atStart => exact ⟨0, by omega, rfl, Lib.hid ⟨HR7.out, HH7.out, HB7.out⟩⟩
    case round =>
      obtain ⟨k, hk, rfl, HW⟩ := hrel
      by_cases hlt : k < t.size
      · obtain ⟨c1, c2⟩ := HTC.out k hlt
        have hk39 := HTS.out
        have c3 : ((t[k].toNat : Int) == 46) = false := by
          rw [beq_eq_false_iff_ne]; intro e; exact c1 (UInt8.toNat_inj.1 (by show _ = 46; omega))
        clear c1
        by_cases c4 : 65 ≤ t[k].toNat
        · have c5 : ¬ t[k].toNat ≤ 90 := fun h => c2 ⟨c4, h⟩
          have c6 : decide (65 ≤ t[k].toNat) = true := by simpa using c4
          have c7 : decide (t[k].toNat ≤ 90) = false := by simpa using c5
          clear c2
          go_wp2_with fail
          go_roundw
          case rel => exact ⟨k + 1, by omega, by go_num, HW⟩
          case measure => simp [intOf]; omega
        · have c6 : decide (65 ≤ t[k].toNat) = false := by simpa using c4
          clear c2
          go_wp2_with fail
          go_roundw
          case rel => exact ⟨k + 1, by omega, by go_num, HW⟩
          case measure => simp [intOf]; omega
      · have h5 : decide (k < t.size) = false := by simpa using hlt
        have HWA := Lib.hid HW.out.1
        have HWC := Lib.hid HW.out.2.1
        go_wp2_with (first
          | (refine gload rfl 27 (.tmp 7) rfl w3.heap.size rfl 27 (A8 x) _ HWC.out Tryd.underlying27 rfl (by rw [HS8.out]; exact info27) ?_)
          | (refine gload rfl 27 (.tmp 10) rfl w6.heap.size rfl 27 (A8 x) _ HWA.out Tryd.underlying27 rfl (by rw [HS8.out]; exact info27) ?_))
        go_ret
        exact ⟨rfl, HW.out.2.2⟩
  · rw [hx]
    clear hx
    simp only [v6E]
    have HR4 := Lib.hid (show Has ((w3.alloc (.cells Z8 27)).setRow w3.heap.size Z8) w3.heap.size (.cells Z8 27) from setRow_heap _ _ _ _ 27 (0, 0) HN4.out)
    have HB4 := Lib.hid (below_setRow (HB3.out.alloc HB3.out.size (.cells Z8 27)) HB3.out.size Z8)
    go_wp2_with (first
      | (refine wpList_store_row rfl 27 (.tmp 7) (.tmp 27) rfl w3.heap.size Z8 rfl rfl 27 Z8 HN4.out info27 rfl Z8_one ?_)
      | (refine gload rfl 27 (.tmp 7) rfl w3.heap.size rfl 27 Z8 _ HR4.out Tryd.underlying27 rfl info27 ?_))
    go_ret
    exact ⟨rfl, HB4.out⟩
end Go.Proofs.YtamhmpgaapgmbaaDoor
