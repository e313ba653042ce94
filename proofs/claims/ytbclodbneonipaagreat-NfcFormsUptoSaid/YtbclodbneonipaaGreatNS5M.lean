/-
  The document's spans (tables).
-/
import Derived.Test.YtbclodbneonipaaGreatNS1M
namespace Go.Proofs.YtbclodbneonipaaGreat
open Go.RowKit N
theorem okSp_split {x : Sp} : okSp x = true ↔ (x.st < 4 ∧ x.map.length ≤ 8 ∧ (x.map.length = 0 ∨ x.st = 2)) ∧ ∀ r ∈ x.map, U.May r := by
  unfold okSp
  simp only [Bool.and_eq_true, Bool.or_eq_true, decide_eq_true_eq, List.all_eq_true]
  exact ⟨fun h => ⟨⟨h.1, h.2.1, h.2.2.1⟩, h.2.2.2⟩, fun h => ⟨h.1.1, h.1.2.1, h.1.2.2, h.2⟩⟩
theorem span_no {b d : Bool} {A : Prop} [Decidable A] {x : Sp} (h : b = (decide A && (okSp x && d))) (hn : ¬ A) : b = false := by rw [h]; simp [hn]
theorem span_no2 {b d : Bool} {A : Prop} [Decidable A] {x : Sp} (h : b = (decide A && (okSp x && d))) (hn : ¬ (x.st < 4 ∧ x.map.length ≤ 8 ∧ (x.map.length = 0 ∨ x.st = 2))) : b = false := by
  have : okSp x = false := Bool.eq_false_iff.2 fun e => hn (okSp_split.1 e).1
  rw [h, this]; simp
theorem span_no3 {b d : Bool} {A : Prop} [Decidable A] {x : Sp} (h : b = (decide A && (okSp x && d))) {r : Int} (hr : r ∈ x.map) (hn : ¬ U.May r) : b = false := by
  have : okSp x = false := Bool.eq_false_iff.2 fun e => hn ((okSp_split.1 e).2 r hr)
  rw [h, this]; simp
theorem span_yes {b d : Bool} {A : Prop} [Decidable A] {x : Sp} (h : b = (decide A && (okSp x && d))) (hA : ¬ ¬ A) (h2 : ¬ ¬ (x.st < 4 ∧ x.map.length ≤ 8 ∧ (x.map.length = 0 ∨ x.st = 2))) (h3 : ∀ r ∈ x.map, U.May r) : b = d := by
  rw [h, okSp_split.2 ⟨Classical.not_not.1 h2, h3⟩]
  simp [Classical.not_not.1 hA]
set_option maxHeartbeats 16000000 in
set_option maxRecDepth 100000 in
theorem rspans_is (v : Value) (l : List Sp) (b : Bool) (hb : spansD l = b) (w : World) (h : Lst w 4 encSp v l) (hl : l.length ≤ 35184372088320) (hm : ∀ x ∈ l, RunesAt w x.mv x.map) : Calls Tryz.prog 40 #[v] w fun e w' => e = .returned (.bool b) ∧ Below w.heap.size w w' := by
  obtain ⟨p, cap, rfl, hn, hcc⟩ := h
  have HC := Lib.hid hcc
  have HM := Lib.hid hm
  have HS0 := Lib.hid (show b = segs (fun x : Sp => (x.lo, x.hi)) okSp (lastE (fun x : Sp => (x.lo, x.hi)) l 0) (l.drop 0) from hb.symm)
  obtain ⟨n, hn'⟩ : ∃ n, l.length = n := ⟨_, rfl⟩
  rw [hn'] at hl ⊢
  have HN := Lib.hid hn'
  clear hcc hb hn hn' hm
  go_enter Tryz.func40, Tryz.ntmps40
  go_wp2_with fail
  go_loopw [9] (fun i wr => ∃ k : Nat, k ≤ n ∧ i = .int .i64 k ∧ Hid (b = segs (fun x : Sp => (x.lo, x.hi)) okSp (lastE (fun x : Sp => (x.lo, x.hi)) l k) (l.drop k)) ∧ Hid (Below w.heap.size w wr)) (fun i _ => n - (intOf i).toNat)
  case atStart => exact ⟨0, by omega, rfl, HS0, Lib.hid (Below.refl _ _)⟩
  case round =>
    clear HS0
    obtain ⟨k, hk, rfl, HS, HB⟩ := hrel
    by_cases hlt : k < n
    · have hkl : k < l.length := by rw [HN.out]; exact hlt
      have i1 : (k : Int) < (n : Int) := by omega
      obtain ⟨x, hx⟩ : ∃ x, l[k]? = some x := ⟨_, List.getElem?_eq_getElem hkl⟩
      obtain ⟨g, of, rfl, hg, hcx⟩ := HC.out k x hx
      obtain ⟨pm, cm, emv, hmc⟩ := HM.out x (List.mem_of_getElem? hx)
      have HMC := Lib.hid hmc
      obtain ⟨nm, hnm⟩ : ∃ nm, x.map.length = nm := ⟨_, rfl⟩
      rw [hnm] at emv
      have HNM := Lib.hid hnm
      have c0 : wr.cell? ⟨g, of + k * 4, none⟩ = some (.int .i32 x.lo) := (HB.out.cell (p := ⟨g, of + k * 4, none⟩) hg).trans (hcx 0 _ rfl)
      have c1 : wr.cell? ⟨g, of + k * 4 + 1, none⟩ = some (.int .i32 x.hi) := (HB.out.cell (p := ⟨g, of + k * 4 + 1, none⟩) hg).trans (hcx 1 _ rfl)
      have c2 : wr.cell? ⟨g, of + k * 4 + 2, none⟩ = some (.int .u8 x.st) := (HB.out.cell (p := ⟨g, of + k * 4 + 2, none⟩) hg).trans (hcx 2 _ rfl)
      have c3 : wr.cell? ⟨g, of + k * 4 + 3, none⟩ = some (.slice pm nm cm) := (HB.out.cell (p := ⟨g, of + k * 4 + 3, none⟩) hg).trans ((hcx 3 _ rfl).trans (congrArg some emv))
      have HST := Lib.hid (HS.out.trans (segs_step hx))
      clear hcx hkl hmc hnm emv
      obtain ⟨X, hX⟩ : ∃ X, wr.alloc (.cells #[.int .i32 x.lo, .int .i32 x.hi, .int .u8 x.st, .slice pm nm cm] 96) = X := ⟨_, rfl⟩
      have HBX := Lib.hid (show Below wr.heap.size wr X from hX ▸ bnew wr _)
      have HX := Lib.hid (show Has X wr.heap.size (.cells #[.int .i32 x.lo, .int .i32 x.hi, .int .u8 x.st, .slice pm nm cm] 96) from hX ▸ Has.new wr _)
      have HBW := Lib.hid (HB.out.trans (HBX.out.mono HB.out.size))
      have z0 : ∀ p : Later X, p.v.cell? ⟨wr.heap.size, 0, none⟩ = some (.int .i32 x.lo) := fun p => (HX.out.to p.h).cell 0 rfl
      have z1 : ∀ p : Later X, p.v.cell? ⟨wr.heap.size, 1, none⟩ = some (.int .i32 x.hi) := fun p => (HX.out.to p.h).cell 1 rfl
      go_upto_region 4 with fail
      obtain ⟨ma, ha⟩ : ∃ mb, decide (U.May x.lo) = mb := ⟨_, rfl⟩
      have HMa := Lib.hid (fun W : World => show Calls Tryz.prog 86 #[.int .i32 x.lo] W fun e w' => e = .returned (.bool ma) ∧ Below W.heap.size W w' from (rmay_is x.lo ma ha W).mono fun e w' h => ⟨h.1, h.2 ▸ Below.refl _ _⟩)
      obtain ⟨mb, hb⟩ : ∃ mb, decide (U.May x.hi) = mb := ⟨_, rfl⟩
      have HMb := Lib.hid (fun W : World => show Calls Tryz.prog 86 #[.int .i32 x.hi] W fun e w' => e = .returned (.bool mb) ∧ Below W.heap.size W w' from (rmay_is x.hi mb hb W).mono fun e w' h => ⟨h.1, h.2 ▸ Below.refl _ _⟩)
      have HP := Lib.hid (fun kp (h0 : kp < k) => show ∃ y, l[kp]? = some y ∧ ∀ p : Later X, p.v.cell? ⟨g, of + kp * 4 + 1, none⟩ = some (.int .i32 y.hi) from by
        obtain ⟨y, hy⟩ : ∃ y, l[kp]? = some y := ⟨_, List.getElem?_eq_getElem (by rw [HN.out]; omega)⟩
        obtain ⟨g', of', e', hg', hcy⟩ := HC.out kp y hy
        simp only [Option.some.injEq, Addr.mk.injEq, and_true] at e'
        obtain ⟨rfl, rfl⟩ := e'
        refine ⟨y, hy, fun p => ?_⟩
        have h1 := (HBW.out.cell (p := ⟨g, of + kp * 4 + 1, none⟩) hg).trans (hcy 1 _ rfl)
        exact (p.h.cell (p := ⟨g, of + kp * 4 + 1, none⟩) (Nat.lt_of_lt_of_le hg HBW.out.size)).trans h1)
      clear c0 c1 c2 c3
      go_cut [55] from 14 to 55 (fun sb wc => ∃ t : Bool, sb = .bool t ∧ Hid (TB t (¬ okE (lastE (fun x : Sp => (x.lo, x.hi)) l k) x.lo x.hi)) ∧ Hid (Below X.heap.size X wc))
      case first =>
        clear hx
        by_cases c00 : x.hi < x.lo
        · have d00 : decide (x.hi < x.lo) = true := decide_eq_true c00
          have HF := Lib.hid (TB.t (A := ¬ okE (lastE (fun x : Sp => (x.lo, x.hi)) l k) x.lo x.hi) (fun h => absurd h.1 (by omega)))
          clear ha hb HST hX HP
          refine wp_region_quiet_later (by kernel_rfl) (by kernel_rfl) ?_
          repeat (go_big_quiet_step (fail))
          refine wpQuiet_nil ?_
          rintro _ ⟨p, rfl⟩
          go_wp2_with fail
          go_meet
          case rel => exact ⟨true, rfl, HF, Lib.hid p.h⟩
        · have d00 : decide (x.hi < x.lo) = false := decide_eq_false c00
          have n00 : x.lo ≤ x.hi := by omega
          cases ma with
          | false =>
            have HF := Lib.hid (TB.t (A := ¬ okE (lastE (fun x : Sp => (x.lo, x.hi)) l k) x.lo x.hi) (fun h => of_decide_eq_false ha h.2.1))
            clear ha hb HST hX HP
            refine wp_region_quiet_later (by kernel_rfl) (by kernel_rfl) ?_
            repeat (go_big_quiet_step (fail))
            go_big_quiet_step ((go_at_call 86; exact Calls.later_of (HMa.out _)))
            repeat (go_big_quiet_step (fail))
            refine wpQuiet_nil ?_
            rintro _ ⟨p, rfl⟩
            go_wp2_with fail
            go_meet
            case rel => exact ⟨true, rfl, HF, Lib.hid p.h⟩
          | true =>
            cases mb with
            | false =>
              have HF := Lib.hid (TB.t (A := ¬ okE (lastE (fun x : Sp => (x.lo, x.hi)) l k) x.lo x.hi) (fun h => of_decide_eq_false hb h.2.2.1))
              clear ha hb HST hX HP
              refine wp_region_quiet_later (by kernel_rfl) (by kernel_rfl) ?_
              repeat (go_big_quiet_step (fail))
              go_big_quiet_step ((go_at_call 86; exact Calls.later_of (HMa.out _)))
              repeat (go_big_quiet_step (fail))
              go_big_quiet_step ((go_at_call 86; exact Calls.later_of (HMb.out _)))
              repeat (go_big_quiet_step (fail))
              refine wpQuiet_nil ?_
              rintro _ ⟨p, rfl⟩
              go_wp2_with fail
              go_meet
              case rel => exact ⟨true, rfl, HF, Lib.hid p.h⟩
            | true =>
              by_cases c30 : x.lo < 55296
              · have d30 : decide (x.lo < 55296) = true := decide_eq_true c30
                by_cases c31 : 57343 < x.hi
                · have d31 : decide (57343 < x.hi) = true := decide_eq_true c31
                  have HF := Lib.hid (TB.t (A := ¬ okE (lastE (fun x : Sp => (x.lo, x.hi)) l k) x.lo x.hi) (fun h => absurd ⟨by omega, by omega⟩ h.2.2.2.1))
                  clear ha hb HST hX HP
                  refine wp_region_quiet_later (by kernel_rfl) (by kernel_rfl) ?_
                  repeat (go_big_quiet_step (fail))
                  go_big_quiet_step ((go_at_call 86; exact Calls.later_of (HMa.out _)))
                  repeat (go_big_quiet_step (fail))
                  go_big_quiet_step ((go_at_call 86; exact Calls.later_of (HMb.out _)))
                  repeat (go_big_quiet_step (fail))
                  refine wpQuiet_nil ?_
                  rintro _ ⟨p, rfl⟩
                  go_wp2_with fail
                  go_meet
                  case rel => exact ⟨true, rfl, HF, Lib.hid p.h⟩
                · have d31 : decide (57343 < x.hi) = false := decide_eq_false c31
                  have n31 : x.hi ≤ 57343 := by omega
                  by_cases k0 : 0 < k
                  · have k1 : (0 : Int) < (k : Int) := by omega
                    have k2 : decide ((0 : Int) < (k : Int)) = true := decide_eq_true k1
                    have k3 : decide (0 < k) = true := decide_eq_true k0
                    obtain ⟨kp, hkp⟩ : ∃ kp, k = kp + 1 := ⟨k - 1, by omega⟩
                    have wk : IntKind.i64.wrap ((k : Int) - 1) = (kp : Int) := by rw [IntWalk.i64_in _ (by omega)]; omega
                    have hkpn : kp < n := by omega
                    obtain ⟨y, hy', hcy⟩ := HP.out kp (by omega)
                    have hy : l[k - 1]? = some y := by rw [hkp, Nat.add_sub_cancel]; exact hy'
                    have HK0 := Lib.hid k0
                    clear hkp hy'
                    by_cases c41 : x.lo ≤ y.hi
                    · have d41 : decide (x.lo ≤ y.hi) = true := decide_eq_true c41
                      have HF := Lib.hid (TB.t (A := ¬ okE (lastE (fun x : Sp => (x.lo, x.hi)) l k) x.lo x.hi) (fun h => by have h9 := h.2.2.2.2 _ (lastE_some HK0.out hy); dsimp only at h9; omega))
                      clear ha hb HST hX hy HP
                      refine wp_region_quiet_later (by kernel_rfl) (by kernel_rfl) ?_
                      repeat (go_big_quiet_step (fail))
                      go_big_quiet_step ((go_at_call 86; exact Calls.later_of (HMa.out _)))
                      repeat (go_big_quiet_step (fail))
                      go_big_quiet_step ((go_at_call 86; exact Calls.later_of (HMb.out _)))
                      repeat (go_big_quiet_step (fail))
                      refine wpQuiet_nil ?_
                      rintro _ ⟨p, rfl⟩
                      go_wp2_with fail
                      go_meet
                      case rel => exact ⟨true, rfl, HF, Lib.hid p.h⟩
                    · have d41 : decide (x.lo ≤ y.hi) = false := decide_eq_false c41
                      have n41 : y.hi < x.lo := by omega
                      have HF := Lib.hid (TB.f (A := ¬ okE (lastE (fun x : Sp => (x.lo, x.hi)) l k) x.lo x.hi) (fun h => h ⟨by omega, of_decide_eq_true ha, of_decide_eq_true hb, by omega, fun p hp => by rw [lastE_some HK0.out hy] at hp; cases hp; dsimp only; omega⟩))
                      clear ha hb HST hX hy HP
                      refine wp_region_quiet_later (by kernel_rfl) (by kernel_rfl) ?_
                      repeat (go_big_quiet_step (fail))
                      go_big_quiet_step ((go_at_call 86; exact Calls.later_of (HMa.out _)))
                      repeat (go_big_quiet_step (fail))
                      go_big_quiet_step ((go_at_call 86; exact Calls.later_of (HMb.out _)))
                      repeat (go_big_quiet_step (fail))
                      refine wpQuiet_nil ?_
                      rintro _ ⟨p, rfl⟩
                      go_wp2_with fail
                      go_meet
                      case rel => exact ⟨false, rfl, HF, Lib.hid p.h⟩
                  · have hk0 : k = 0 := by omega
                    have k1 : ¬ (0 : Int) < (k : Int) := by omega
                    have k2 : decide ((0 : Int) < (k : Int)) = false := decide_eq_false k1
                    have k3 : decide (0 < k) = false := decide_eq_false k0
                    have HK0 := Lib.hid hk0
                    clear hk0
                    have HF := Lib.hid (TB.f (A := ¬ okE (lastE (fun x : Sp => (x.lo, x.hi)) l k) x.lo x.hi) (fun h => h ⟨by omega, of_decide_eq_true ha, of_decide_eq_true hb, by omega, fun p hp => by rw [lastE_zero HK0.out] at hp; cases hp⟩))
                    clear ha hb HST hX HP
                    refine wp_region_quiet_later (by kernel_rfl) (by kernel_rfl) ?_
                    repeat (go_big_quiet_step (fail))
                    go_big_quiet_step ((go_at_call 86; exact Calls.later_of (HMa.out _)))
                    repeat (go_big_quiet_step (fail))
                    go_big_quiet_step ((go_at_call 86; exact Calls.later_of (HMb.out _)))
                    repeat (go_big_quiet_step (fail))
                    refine wpQuiet_nil ?_
                    rintro _ ⟨p, rfl⟩
                    go_wp2_with fail
                    go_meet
                    case rel => exact ⟨false, rfl, HF, Lib.hid p.h⟩
              · have d30 : decide (x.lo < 55296) = false := decide_eq_false c30
                have n30 : 55296 ≤ x.lo := by omega
                by_cases k0 : 0 < k
                · have k1 : (0 : Int) < (k : Int) := by omega
                  have k2 : decide ((0 : Int) < (k : Int)) = true := decide_eq_true k1
                  have k3 : decide (0 < k) = true := decide_eq_true k0
                  obtain ⟨kp, hkp⟩ : ∃ kp, k = kp + 1 := ⟨k - 1, by omega⟩
                  have wk : IntKind.i64.wrap ((k : Int) - 1) = (kp : Int) := by rw [IntWalk.i64_in _ (by omega)]; omega
                  have hkpn : kp < n := by omega
                  obtain ⟨y, hy', hcy⟩ := HP.out kp (by omega)
                  have hy : l[k - 1]? = some y := by rw [hkp, Nat.add_sub_cancel]; exact hy'
                  have HK0 := Lib.hid k0
                  clear hkp hy'
                  by_cases c41 : x.lo ≤ y.hi
                  · have d41 : decide (x.lo ≤ y.hi) = true := decide_eq_true c41
                    have HF := Lib.hid (TB.t (A := ¬ okE (lastE (fun x : Sp => (x.lo, x.hi)) l k) x.lo x.hi) (fun h => by have h9 := h.2.2.2.2 _ (lastE_some HK0.out hy); dsimp only at h9; omega))
                    clear ha hb HST hX hy HP
                    refine wp_region_quiet_later (by kernel_rfl) (by kernel_rfl) ?_
                    repeat (go_big_quiet_step (fail))
                    go_big_quiet_step ((go_at_call 86; exact Calls.later_of (HMa.out _)))
                    repeat (go_big_quiet_step (fail))
                    go_big_quiet_step ((go_at_call 86; exact Calls.later_of (HMb.out _)))
                    repeat (go_big_quiet_step (fail))
                    refine wpQuiet_nil ?_
                    rintro _ ⟨p, rfl⟩
                    go_wp2_with fail
                    go_meet
                    case rel => exact ⟨true, rfl, HF, Lib.hid p.h⟩
                  · have d41 : decide (x.lo ≤ y.hi) = false := decide_eq_false c41
                    have n41 : y.hi < x.lo := by omega
                    have HF := Lib.hid (TB.f (A := ¬ okE (lastE (fun x : Sp => (x.lo, x.hi)) l k) x.lo x.hi) (fun h => h ⟨by omega, of_decide_eq_true ha, of_decide_eq_true hb, by omega, fun p hp => by rw [lastE_some HK0.out hy] at hp; cases hp; dsimp only; omega⟩))
                    clear ha hb HST hX hy HP
                    refine wp_region_quiet_later (by kernel_rfl) (by kernel_rfl) ?_
                    repeat (go_big_quiet_step (fail))
                    go_big_quiet_step ((go_at_call 86; exact Calls.later_of (HMa.out _)))
                    repeat (go_big_quiet_step (fail))
                    go_big_quiet_step ((go_at_call 86; exact Calls.later_of (HMb.out _)))
                    repeat (go_big_quiet_step (fail))
                    refine wpQuiet_nil ?_
                    rintro _ ⟨p, rfl⟩
                    go_wp2_with fail
                    go_meet
                    case rel => exact ⟨false, rfl, HF, Lib.hid p.h⟩
                · have hk0 : k = 0 := by omega
                  have k1 : ¬ (0 : Int) < (k : Int) := by omega
                  have k2 : decide ((0 : Int) < (k : Int)) = false := decide_eq_false k1
                  have k3 : decide (0 < k) = false := decide_eq_false k0
                  have HK0 := Lib.hid hk0
                  clear hk0
                  have HF := Lib.hid (TB.f (A := ¬ okE (lastE (fun x : Sp => (x.lo, x.hi)) l k) x.lo x.hi) (fun h => h ⟨by omega, of_decide_eq_true ha, of_decide_eq_true hb, by omega, fun p hp => by rw [lastE_zero HK0.out] at hp; cases hp⟩))
                  clear ha hb HST hX HP
                  refine wp_region_quiet_later (by kernel_rfl) (by kernel_rfl) ?_
                  repeat (go_big_quiet_step (fail))
                  go_big_quiet_step ((go_at_call 86; exact Calls.later_of (HMa.out _)))
                  repeat (go_big_quiet_step (fail))
                  go_big_quiet_step ((go_at_call 86; exact Calls.later_of (HMb.out _)))
                  repeat (go_big_quiet_step (fail))
                  refine wpQuiet_nil ?_
                  rintro _ ⟨p, rfl⟩
                  go_wp2_with fail
                  go_meet
                  case rel => exact ⟨false, rfl, HF, Lib.hid p.h⟩
      case rest =>
      obtain ⟨t, rfl, HF, HBc⟩ := hcut
      have HBz := Lib.hid (HBW.out.trans (HBc.out.mono HBW.out.size))
      clear z0 z1 HP ha hb HMa HMb ma mb
      cases t with
      | true =>
        have HZ := Lib.hid (span_no HST.out HF.out.yes)
        go_wp2_with fail
        go_ret
        exact ⟨by rw [HZ.out]; rfl, HBz.out⟩
      | false =>
      have HXc := Lib.hid (HX.out.to HBc.out)
      have z2 : wc.cell? ⟨wr.heap.size, 2, none⟩ = some (.int .u8 x.st) := HXc.out.cell 2 rfl
      have z3 : wc.cell? ⟨wr.heap.size, 3, none⟩ = some (.slice pm nm cm) := HXc.out.cell 3 rfl
      go_upto_region 6 with fail
      go_cut [75] from 56 to 75 (fun sb wd => ∃ t : Bool, sb = .bool t ∧ Hid (TB t (¬ (x.st < 4 ∧ x.map.length ≤ 8 ∧ (x.map.length = 0 ∨ x.st = 2)))) ∧ Hid (Below wc.heap.size wc wd))
      case first =>
        clear hx hX
        by_cases c00 : 4 ≤ x.st
        · have d00 : decide (4 ≤ x.st) = true := decide_eq_true c00
          have HF := Lib.hid (TB.t (A := ¬ (x.st < 4 ∧ x.map.length ≤ 8 ∧ (x.map.length = 0 ∨ x.st = 2))) (fun h => absurd h.1 (by omega)))
          clear HST
          go_wp2_with fail
          go_meet
          case rel => exact ⟨true, rfl, HF, Lib.hid (Below.refl _ _)⟩
        · have d00 : decide (4 ≤ x.st) = false := decide_eq_false c00
          have n00 : x.st < 4 := by omega
          by_cases c10 : (8 : Int) < (nm : Int)
          · have d10 : decide ((8 : Int) < (nm : Int)) = true := decide_eq_true c10
            have HF := Lib.hid (TB.t (A := ¬ (x.st < 4 ∧ x.map.length ≤ 8 ∧ (x.map.length = 0 ∨ x.st = 2))) (fun h => by have := h.2.1; rw [HNM.out] at this; omega))
            clear HST
            go_wp2_with fail
            go_meet
            case rel => exact ⟨true, rfl, HF, Lib.hid (Below.refl _ _)⟩
          · have d10 : decide ((8 : Int) < (nm : Int)) = false := decide_eq_false c10
            have n10 : (nm : Int) ≤ (8 : Int) := by omega
            by_cases c20 : (0 : Int) < (nm : Int)
            · have d20 : decide ((0 : Int) < (nm : Int)) = true := decide_eq_true c20
              by_cases c21 : x.st = 2
              · have d21 : (x.st == 2) = true := by rw [c21]; rfl
                have e21 : (x.st != 2) = false := by rw [c21]; rfl
                have f21 : decide (x.st = 2) = true := decide_eq_true c21
                have C21 := Lib.hid c21
                have HF := Lib.hid (TB.f (A := ¬ (x.st < 4 ∧ x.map.length ≤ 8 ∧ (x.map.length = 0 ∨ x.st = 2))) (fun h => h ⟨by omega, by rw [HNM.out]; omega, .inr (by omega)⟩))
                clear HST c21
                go_wp2_with fail
                go_meet
                case rel => exact ⟨false, rfl, HF, Lib.hid (Below.refl _ _)⟩
              · have d21 : (x.st == 2) = false := by simpa using c21
                have e21 : (x.st != 2) = true := by rw [bne, d21]; rfl
                have f21 : decide (x.st = 2) = false := decide_eq_false c21
                have C21 := Lib.hid c21
                have HF := Lib.hid (TB.t (A := ¬ (x.st < 4 ∧ x.map.length ≤ 8 ∧ (x.map.length = 0 ∨ x.st = 2))) (fun h => by have := h.2.2; rw [HNM.out] at this; omega))
                clear HST c21
                go_wp2_with fail
                go_meet
                case rel => exact ⟨true, rfl, HF, Lib.hid (Below.refl _ _)⟩
            · have d20 : decide ((0 : Int) < (nm : Int)) = false := decide_eq_false c20
              have n20 : (nm : Int) ≤ (0 : Int) := by omega
              have HF := Lib.hid (TB.f (A := ¬ (x.st < 4 ∧ x.map.length ≤ 8 ∧ (x.map.length = 0 ∨ x.st = 2))) (fun h => h ⟨by omega, by rw [HNM.out]; omega, .inl (by rw [HNM.out]; omega)⟩))
              clear HST
              go_wp2_with fail
              go_meet
              case rel => exact ⟨false, rfl, HF, Lib.hid (Below.refl _ _)⟩
      case rest =>
      rename World => wd
      obtain ⟨t, rfl, HF2, HBd⟩ := hcut
      have HBy := Lib.hid (HBz.out.trans (HBd.out.mono HBz.out.size))
      clear z2 z3
      cases t with
      | true =>
        have HZ := Lib.hid (span_no2 HST.out HF2.out.yes)
        go_wp2_with fail
        go_ret
        exact ⟨by rw [HZ.out]; rfl, HBy.out⟩
      | false =>
      have hn8 : nm ≤ 8 := by have := (Classical.not_not.1 HF2.out.no).2.1; rw [HNM.out] at this; exact this
      have HXd := Lib.hid (HXc.out.to HBd.out)
      have z3 : wd.cell? ⟨wr.heap.size, 3, none⟩ = some (.slice pm nm cm) := HXd.out.cell 3 rfl
      clear HX HXc hX
      go_wp2_with fail
      go_loopw [79] (fun i w3 => ∃ j : Nat, j ≤ nm ∧ i = .int .i64 j ∧ Hid (∀ r ∈ x.map.take j, U.May r) ∧ Hid (Below wd.heap.size wd w3)) (fun i _ => nm - (intOf i).toNat)
      case atStart => exact ⟨0, by omega, rfl, Lib.hid (fun r hr => by simp at hr), Lib.hid (Below.refl _ _)⟩
      case round =>
        rename World => w3
        obtain ⟨j, hj, rfl, HJ, HB3⟩ := hrel
        have HBv := Lib.hid (HBy.out.trans (HB3.out.mono HBy.out.size))
        by_cases hjl : j < nm
        · obtain ⟨r, hr⟩ : ∃ r, x.map[j]? = some r := ⟨_, List.getElem?_eq_getElem (by rw [HNM.out]; exact hjl)⟩
          obtain ⟨g3, o3, rfl, hg3, hcr⟩ := HMC.out j r hr
          have j1 : (j : Int) < (nm : Int) := by omega
          have r0 : w3.cell? ⟨g3, o3 + j, none⟩ = some (.int .i32 r) := (HBv.out.cell (p := ⟨g3, o3 + j, none⟩) hg3).trans hcr
          obtain ⟨mr, hmr⟩ : ∃ mb, decide (U.May r) = mb := ⟨_, rfl⟩
          have HMr := Lib.hid (fun W : World => rmay_is r mr hmr W)
          have HTK := Lib.hid (show x.map.take (j + 1) = x.map.take j ++ [r] from by
            obtain ⟨h1, h2⟩ := List.getElem?_eq_some_iff.1 hr
            rw [take_snoc _ _ h1, h2])
          cases mr with
          | false =>
            have HZ := Lib.hid (span_no3 HST.out (List.mem_of_getElem? hr) (of_decide_eq_false hmr))
            clear hmr hcr hr
            go_wp2_with (go_at_call 86; refine (HMr.out _).mono ?_; rintro e w4 ⟨rfl, rfl⟩)
            go_ret
            exact ⟨by rw [HZ.out]; rfl, HBv.out⟩
          | true =>
            have HJ2 := Lib.hid (show ∀ r ∈ x.map.take (j + 1), U.May r from by
              rw [HTK.out]
              intro s hs
              rcases List.mem_append.1 hs with h | h
              · exact HJ.out s h
              · rw [List.mem_singleton] at h; rw [h]; exact of_decide_eq_true hmr)
            clear hmr hcr hr
            go_wp2_with (go_at_call 86; refine (HMr.out _).mono ?_; rintro e w4 ⟨rfl, rfl⟩)
            go_roundw
            case rel => exact ⟨j + 1, by omega, by go_num, HJ2, HB3⟩
            case measure => simp [intOf]; omega
        · have HZ := Lib.hid (span_yes HST.out HF.out.no HF2.out.no (by
            have := HJ.out
            rwa [List.take_of_length_le (by rw [HNM.out]; omega)] at this))
          go_wp2_with fail
          go_roundw
          case rel => exact ⟨k + 1, by omega, by go_num, HZ, HBv⟩
          case measure => simp [intOf]; omega
    · have HZ := Lib.hid (HS.out.trans (segs_end (by rw [HN.out]; omega)))
      go_wp2_with fail
      go_ret
      exact ⟨by rw [HZ.out]; rfl, HB.out⟩
end Go.Proofs.YtbclodbneonipaaGreat
