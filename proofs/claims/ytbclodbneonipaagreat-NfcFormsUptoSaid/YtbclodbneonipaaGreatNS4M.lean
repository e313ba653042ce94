/-
  The document's joins (tables).
-/
import Derived.Test.YtbclodbneonipaaGreatNS1M
namespace Go.Proofs.YtbclodbneonipaaGreat
open Go.RowKit N
set_option maxHeartbeats 16000000 in
set_option maxRecDepth 100000 in
theorem rjoins_is (v : Value) (l : List Sg) (b : Bool) (hb : joinsD l = b) (w : World) (h : Lst w 3 encSg v l) (hl : l.length ≤ 35184372088320) : Calls Tryz.prog 44 #[v] w fun e w' => e = .returned (.bool b) ∧ Below w.heap.size w w' := by
  obtain ⟨p, cap, rfl, hn, hcc⟩ := h
  have HC := Lib.hid hcc
  have HS0 := Lib.hid (show b = segs (fun x : Sg => (x.lo, x.hi)) jnB (lastE (fun x : Sg => (x.lo, x.hi)) l 0) (l.drop 0) from hb.symm)
  obtain ⟨n, hn'⟩ : ∃ n, l.length = n := ⟨_, rfl⟩
  rw [hn'] at hl ⊢
  have HN := Lib.hid hn'
  clear hcc hb hn hn'
  go_enter Tryz.func44, Tryz.ntmps44
  go_wp2_with fail
  go_loopw [7] (fun i wr => ∃ k : Nat, k ≤ n ∧ i = .int .i64 k ∧ Hid (b = segs (fun x : Sg => (x.lo, x.hi)) jnB (lastE (fun x : Sg => (x.lo, x.hi)) l k) (l.drop k)) ∧ Hid (Below w.heap.size w wr)) (fun i _ => n - (intOf i).toNat)
  case atStart => exact ⟨0, by omega, rfl, HS0, Lib.hid (Below.refl _ _)⟩
  case round =>
    clear HS0
    obtain ⟨k, hk, rfl, HS, HB⟩ := hrel
    by_cases hlt : k < n
    · have hkl : k < l.length := by rw [HN.out]; exact hlt
      have i1 : (k : Int) < (n : Int) := by omega
      obtain ⟨x, hx⟩ : ∃ x, l[k]? = some x := ⟨_, List.getElem?_eq_getElem hkl⟩
      obtain ⟨g, of, rfl, hg, hcx⟩ := HC.out k x hx
      have c0 : wr.cell? ⟨g, of + k * 3, none⟩ = some (.int .i32 x.lo) := (HB.out.cell (p := ⟨g, of + k * 3, none⟩) hg).trans (hcx 0 _ rfl)
      have c1 : wr.cell? ⟨g, of + k * 3 + 1, none⟩ = some (.int .i32 x.hi) := (HB.out.cell (p := ⟨g, of + k * 3 + 1, none⟩) hg).trans (hcx 1 _ rfl)
      have c2 : wr.cell? ⟨g, of + k * 3 + 2, none⟩ = some (.int .u8 x.k) := (HB.out.cell (p := ⟨g, of + k * 3 + 2, none⟩) hg).trans (hcx 2 _ rfl)
      have HST := Lib.hid (HS.out.trans (segs_step hx))
      clear hcx hkl
      obtain ⟨X, hX⟩ : ∃ X, wr.alloc (.cells #[.int .i32 x.lo, .int .i32 x.hi, .int .u8 x.k] 110) = X := ⟨_, rfl⟩
      have HBX := Lib.hid (show Below wr.heap.size wr X from hX ▸ bnew wr _)
      have HX := Lib.hid (show Has X wr.heap.size (.cells #[.int .i32 x.lo, .int .i32 x.hi, .int .u8 x.k] 110) from hX ▸ Has.new wr _)
      have HBW := Lib.hid (HB.out.trans (HBX.out.mono HB.out.size))
      have z0 : ∀ p : Later X, p.v.cell? ⟨wr.heap.size, 0, none⟩ = some (.int .i32 x.lo) := fun p => (HX.out.to p.h).cell 0 rfl
      have z1 : ∀ p : Later X, p.v.cell? ⟨wr.heap.size, 1, none⟩ = some (.int .i32 x.hi) := fun p => (HX.out.to p.h).cell 1 rfl
      have z2 : ∀ p : Later X, p.v.cell? ⟨wr.heap.size, 2, none⟩ = some (.int .u8 x.k) := fun p => (HX.out.to p.h).cell 2 rfl
      go_upto_region 4 with fail
      obtain ⟨ma, ha⟩ : ∃ mb, decide (U.May x.lo) = mb := ⟨_, rfl⟩
      have HMa := Lib.hid (fun W : World => show Calls Tryz.prog 86 #[.int .i32 x.lo] W fun e w' => e = .returned (.bool ma) ∧ Below W.heap.size W w' from (rmay_is x.lo ma ha W).mono fun e w' h => ⟨h.1, h.2 ▸ Below.refl _ _⟩)
      obtain ⟨mb, hb⟩ : ∃ mb, decide (U.May x.hi) = mb := ⟨_, rfl⟩
      have HMb := Lib.hid (fun W : World => show Calls Tryz.prog 86 #[.int .i32 x.hi] W fun e w' => e = .returned (.bool mb) ∧ Below W.heap.size W w' from (rmay_is x.hi mb hb W).mono fun e w' h => ⟨h.1, h.2 ▸ Below.refl _ _⟩)
      have HP := Lib.hid (fun kp (h0 : kp < k) => show ∃ y, l[kp]? = some y ∧ ∀ p : Later X, p.v.cell? ⟨g, of + kp * 3 + 1, none⟩ = some (.int .i32 y.hi) from by
        obtain ⟨y, hy⟩ : ∃ y, l[kp]? = some y := ⟨_, List.getElem?_eq_getElem (by rw [HN.out]; omega)⟩
        obtain ⟨g', of', e', hg', hcy⟩ := HC.out kp y hy
        simp only [Option.some.injEq, Addr.mk.injEq, and_true] at e'
        obtain ⟨rfl, rfl⟩ := e'
        refine ⟨y, hy, fun p => ?_⟩
        have h1 := (HBW.out.cell (p := ⟨g, of + kp * 3 + 1, none⟩) hg).trans (hcy 1 _ rfl)
        exact (p.h.cell (p := ⟨g, of + kp * 3 + 1, none⟩) (Nat.lt_of_lt_of_le hg HBW.out.size)).trans h1)
      clear c0 c1 c2
      go_cut [63] from 12 to 63 (fun sb wc => ∃ t : Bool, sb = .bool t ∧ Hid (TB t (¬ (okE (lastE (fun x : Sg => (x.lo, x.hi)) l k) x.lo x.hi ∧ jnB x = true))) ∧ Hid (Below X.heap.size X wc))
      case first =>
        clear hx
        by_cases c00 : x.hi < x.lo
        · have d00 : decide (x.hi < x.lo) = true := decide_eq_true c00
          have HF := Lib.hid (TB.t (A := ¬ (okE (lastE (fun x : Sg => (x.lo, x.hi)) l k) x.lo x.hi ∧ jnB x = true)) (fun h => absurd h.1.1 (by omega)))
          clear ha hb HST hX HP
          refine wp_region_quiet_later (by kernel_rfl) (by kernel_rfl) ?_
          repeat (go_big_quiet_step (fail))
          refine wpQuiet_nil ?_
          rintro _ ⟨p, rfl⟩
          go_wp2_with fail
          go_meet
          case rel => exact ⟨true, rfl, HF, Lib.hid p.h⟩
        · have d00 : decide (x.hi < x.lo) = false := decide_eq_false c00
          have n00 : x.lo ≤ x.hi := by omega
          cases ma with
          | false =>
            have HF := Lib.hid (TB.t (A := ¬ (okE (lastE (fun x : Sg => (x.lo, x.hi)) l k) x.lo x.hi ∧ jnB x = true)) (fun h => of_decide_eq_false ha h.1.2.1))
            clear ha hb HST hX HP
            refine wp_region_quiet_later (by kernel_rfl) (by kernel_rfl) ?_
            repeat (go_big_quiet_step (fail))
            go_big_quiet_step ((go_at_call 86; exact Calls.later_of (HMa.out _)))
            repeat (go_big_quiet_step (fail))
            refine wpQuiet_nil ?_
            rintro _ ⟨p, rfl⟩
            go_wp2_with fail
            go_meet
            case rel => exact ⟨true, rfl, HF, Lib.hid p.h⟩
          | true =>
            cases mb with
            | false =>
              have HF := Lib.hid (TB.t (A := ¬ (okE (lastE (fun x : Sg => (x.lo, x.hi)) l k) x.lo x.hi ∧ jnB x = true)) (fun h => of_decide_eq_false hb h.1.2.2.1))
              clear ha hb HST hX HP
              refine wp_region_quiet_later (by kernel_rfl) (by kernel_rfl) ?_
              repeat (go_big_quiet_step (fail))
              go_big_quiet_step ((go_at_call 86; exact Calls.later_of (HMa.out _)))
              repeat (go_big_quiet_step (fail))
              go_big_quiet_step ((go_at_call 86; exact Calls.later_of (HMb.out _)))
              repeat (go_big_quiet_step (fail))
              refine wpQuiet_nil ?_
              rintro _ ⟨p, rfl⟩
              go_wp2_with fail
              go_meet
              case rel => exact ⟨true, rfl, HF, Lib.hid p.h⟩
            | true =>
              by_cases c30 : x.lo < 55296
              · have d30 : decide (x.lo < 55296) = true := decide_eq_true c30
                by_cases c31 : 57343 < x.hi
                · have d31 : decide (57343 < x.hi) = true := decide_eq_true c31
                  have HF := Lib.hid (TB.t (A := ¬ (okE (lastE (fun x : Sg => (x.lo, x.hi)) l k) x.lo x.hi ∧ jnB x = true)) (fun h => absurd ⟨by omega, by omega⟩ h.1.2.2.2.1))
                  clear ha hb HST hX HP
                  refine wp_region_quiet_later (by kernel_rfl) (by kernel_rfl) ?_
                  repeat (go_big_quiet_step (fail))
                  go_big_quiet_step ((go_at_call 86; exact Calls.later_of (HMa.out _)))
                  repeat (go_big_quiet_step (fail))
                  go_big_quiet_step ((go_at_call 86; exact Calls.later_of (HMb.out _)))
                  repeat (go_big_quiet_step (fail))
                  refine wpQuiet_nil ?_
                  rintro _ ⟨p, rfl⟩
                  go_wp2_with fail
                  go_meet
                  case rel => exact ⟨true, rfl, HF, Lib.hid p.h⟩
                · have d31 : decide (57343 < x.hi) = false := decide_eq_false c31
                  have n31 : x.hi ≤ 57343 := by omega
                  by_cases k0 : 0 < k
                  · have k1 : (0 : Int) < (k : Int) := by omega
                    have k2 : decide ((0 : Int) < (k : Int)) = true := decide_eq_true k1
                    have k3 : decide (0 < k) = true := decide_eq_true k0
                    obtain ⟨kp, hkp⟩ : ∃ kp, k = kp + 1 := ⟨k - 1, by omega⟩
                    have wk : IntKind.i64.wrap ((k : Int) - 1) = (kp : Int) := by rw [IntWalk.i64_in _ (by omega)]; omega
                    have hkpn : kp < n := by omega
                    obtain ⟨y, hy', hcy⟩ := HP.out kp (by omega)
                    have hy : l[k - 1]? = some y := by rw [hkp, Nat.add_sub_cancel]; exact hy'
                    have HK0 := Lib.hid k0
                    clear hkp hy'
                    by_cases c41 : x.lo ≤ y.hi
                    · have d41 : decide (x.lo ≤ y.hi) = true := decide_eq_true c41
                      have HF := Lib.hid (TB.t (A := ¬ (okE (lastE (fun x : Sg => (x.lo, x.hi)) l k) x.lo x.hi ∧ jnB x = true)) (fun h => by have h9 := h.1.2.2.2.2 _ (lastE_some HK0.out hy); dsimp only at h9; omega))
                      clear ha hb HST hX hy HP
                      refine wp_region_quiet_later (by kernel_rfl) (by kernel_rfl) ?_
                      repeat (go_big_quiet_step (fail))
                      go_big_quiet_step ((go_at_call 86; exact Calls.later_of (HMa.out _)))
                      repeat (go_big_quiet_step (fail))
                      go_big_quiet_step ((go_at_call 86; exact Calls.later_of (HMb.out _)))
                      repeat (go_big_quiet_step (fail))
                      refine wpQuiet_nil ?_
                      rintro _ ⟨p, rfl⟩
                      go_wp2_with fail
                      go_meet
                      case rel => exact ⟨true, rfl, HF, Lib.hid p.h⟩
                    · have d41 : decide (x.lo ≤ y.hi) = false := decide_eq_false c41
                      have n41 : y.hi < x.lo := by omega
                      by_cases c50 : x.k < 1
                      · have d50 : decide (x.k < 1) = true := decide_eq_true c50
                        have HF := Lib.hid (TB.t (A := ¬ (okE (lastE (fun x : Sg => (x.lo, x.hi)) l k) x.lo x.hi ∧ jnB x = true)) (fun h => by have := jnB_iff.1 h.2; omega))
                        clear ha hb HST hX hy HP
                        refine wp_region_quiet_later (by kernel_rfl) (by kernel_rfl) ?_
                        repeat (go_big_quiet_step (fail))
                        go_big_quiet_step ((go_at_call 86; exact Calls.later_of (HMa.out _)))
                        repeat (go_big_quiet_step (fail))
                        go_big_quiet_step ((go_at_call 86; exact Calls.later_of (HMb.out _)))
                        repeat (go_big_quiet_step (fail))
                        refine wpQuiet_nil ?_
                        rintro _ ⟨p, rfl⟩
                        go_wp2_with fail
                        go_meet
                        case rel => exact ⟨true, rfl, HF, Lib.hid p.h⟩
                      · have d50 : decide (x.k < 1) = false := decide_eq_false c50
                        have n50 : 1 ≤ x.k := by omega
                        by_cases c60 : 5 ≤ x.k
                        · have d60 : decide (5 ≤ x.k) = true := decide_eq_true c60
                          have HF := Lib.hid (TB.t (A := ¬ (okE (lastE (fun x : Sg => (x.lo, x.hi)) l k) x.lo x.hi ∧ jnB x = true)) (fun h => by have := jnB_iff.1 h.2; omega))
                          clear ha hb HST hX hy HP
                          refine wp_region_quiet_later (by kernel_rfl) (by kernel_rfl) ?_
                          repeat (go_big_quiet_step (fail))
                          go_big_quiet_step ((go_at_call 86; exact Calls.later_of (HMa.out _)))
                          repeat (go_big_quiet_step (fail))
                          go_big_quiet_step ((go_at_call 86; exact Calls.later_of (HMb.out _)))
                          repeat (go_big_quiet_step (fail))
                          refine wpQuiet_nil ?_
                          rintro _ ⟨p, rfl⟩
                          go_wp2_with fail
                          go_meet
                          case rel => exact ⟨true, rfl, HF, Lib.hid p.h⟩
                        · have d60 : decide (5 ≤ x.k) = false := decide_eq_false c60
                          have n60 : x.k < 5 := by omega
                          have HF := Lib.hid (TB.f (A := ¬ (okE (lastE (fun x : Sg => (x.lo, x.hi)) l k) x.lo x.hi ∧ jnB x = true)) (fun h => h ⟨⟨by omega, of_decide_eq_true ha, of_decide_eq_true hb, by omega, fun p hp => by rw [lastE_some HK0.out hy] at hp; cases hp; dsimp only; omega⟩, jnB_iff.2 ⟨by omega, by omega⟩⟩))
                          clear ha hb HST hX hy HP
                          refine wp_region_quiet_later (by kernel_rfl) (by kernel_rfl) ?_
                          repeat (go_big_quiet_step (fail))
                          go_big_quiet_step ((go_at_call 86; exact Calls.later_of (HMa.out _)))
                          repeat (go_big_quiet_step (fail))
                          go_big_quiet_step ((go_at_call 86; exact Calls.later_of (HMb.out _)))
                          repeat (go_big_quiet_step (fail))
                          refine wpQuiet_nil ?_
                          rintro _ ⟨p, rfl⟩
                          go_wp2_with fail
                          go_meet
                          case rel => exact ⟨false, rfl, HF, Lib.hid p.h⟩
                  · have hk0 : k = 0 := by omega
                    have k1 : ¬ (0 : Int) < (k : Int) := by omega
                    have k2 : decide ((0 : Int) < (k : Int)) = false := decide_eq_false k1
                    have k3 : decide (0 < k) = false := decide_eq_false k0
                    have HK0 := Lib.hid hk0
                    clear hk0
                    by_cases c50 : x.k < 1
                    · have d50 : decide (x.k < 1) = true := decide_eq_true c50
                      have HF := Lib.hid (TB.t (A := ¬ (okE (lastE (fun x : Sg => (x.lo, x.hi)) l k) x.lo x.hi ∧ jnB x = true)) (fun h => by have := jnB_iff.1 h.2; omega))
                      clear ha hb HST hX HP
                      refine wp_region_quiet_later (by kernel_rfl) (by kernel_rfl) ?_
                      repeat (go_big_quiet_step (fail))
                      go_big_quiet_step ((go_at_call 86; exact Calls.later_of (HMa.out _)))
                      repeat (go_big_quiet_step (fail))
                      go_big_quiet_step ((go_at_call 86; exact Calls.later_of (HMb.out _)))
                      repeat (go_big_quiet_step (fail))
                      refine wpQuiet_nil ?_
                      rintro _ ⟨p, rfl⟩
                      go_wp2_with fail
                      go_meet
                      case rel => exact ⟨true, rfl, HF, Lib.hid p.h⟩
                    · have d50 : decide (x.k < 1) = false := decide_eq_false c50
                      have n50 : 1 ≤ x.k := by omega
                      by_cases c60 : 5 ≤ x.k
                      · have d60 : decide (5 ≤ x.k) = true := decide_eq_true c60
                        have HF := Lib.hid (TB.t (A := ¬ (okE (lastE (fun x : Sg => (x.lo, x.hi)) l k) x.lo x.hi ∧ jnB x = true)) (fun h => by have := jnB_iff.1 h.2; omega))
                        clear ha hb HST hX HP
                        refine wp_region_quiet_later (by kernel_rfl) (by kernel_rfl) ?_
                        repeat (go_big_quiet_step (fail))
                        go_big_quiet_step ((go_at_call 86; exact Calls.later_of (HMa.out _)))
                        repeat (go_big_quiet_step (fail))
                        go_big_quiet_step ((go_at_call 86; exact Calls.later_of (HMb.out _)))
                        repeat (go_big_quiet_step (fail))
                        refine wpQuiet_nil ?_
                        rintro _ ⟨p, rfl⟩
                        go_wp2_with fail
                        go_meet
                        case rel => exact ⟨true, rfl, HF, Lib.hid p.h⟩
                      · have d60 : decide (5 ≤ x.k) = false := decide_eq_false c60
                        have n60 : x.k < 5 := by omega
                        have HF := Lib.hid (TB.f (A := ¬ (okE (lastE (fun x : Sg => (x.lo, x.hi)) l k) x.lo x.hi ∧ jnB x = true)) (fun h => h ⟨⟨by omega, of_decide_eq_true ha, of_decide_eq_true hb, by omega, fun p hp => by rw [lastE_zero HK0.out] at hp; cases hp⟩, jnB_iff.2 ⟨by omega, by omega⟩⟩))
                        clear ha hb HST hX HP
                        refine wp_region_quiet_later (by kernel_rfl) (by kernel_rfl) ?_
                        repeat (go_big_quiet_step (fail))
                        go_big_quiet_step ((go_at_call 86; exact Calls.later_of (HMa.out _)))
                        repeat (go_big_quiet_step (fail))
                        go_big_quiet_step ((go_at_call 86; exact Calls.later_of (HMb.out _)))
                        repeat (go_big_quiet_step (fail))
                        refine wpQuiet_nil ?_
                        rintro _ ⟨p, rfl⟩
                        go_wp2_with fail
                        go_meet
                        case rel => exact ⟨false, rfl, HF, Lib.hid p.h⟩
              · have d30 : decide (x.lo < 55296) = false := decide_eq_false c30
                have n30 : 55296 ≤ x.lo := by omega
                by_cases k0 : 0 < k
                · have k1 : (0 : Int) < (k : Int) := by omega
                  have k2 : decide ((0 : Int) < (k : Int)) = true := decide_eq_true k1
                  have k3 : decide (0 < k) = true := decide_eq_true k0
                  obtain ⟨kp, hkp⟩ : ∃ kp, k = kp + 1 := ⟨k - 1, by omega⟩
                  have wk : IntKind.i64.wrap ((k : Int) - 1) = (kp : Int) := by rw [IntWalk.i64_in _ (by omega)]; omega
                  have hkpn : kp < n := by omega
                  obtain ⟨y, hy', hcy⟩ := HP.out kp (by omega)
                  have hy : l[k - 1]? = some y := by rw [hkp, Nat.add_sub_cancel]; exact hy'
                  have HK0 := Lib.hid k0
                  clear hkp hy'
                  by_cases c41 : x.lo ≤ y.hi
                  · have d41 : decide (x.lo ≤ y.hi) = true := decide_eq_true c41
                    have HF := Lib.hid (TB.t (A := ¬ (okE (lastE (fun x : Sg => (x.lo, x.hi)) l k) x.lo x.hi ∧ jnB x = true)) (fun h => by have h9 := h.1.2.2.2.2 _ (lastE_some HK0.out hy); dsimp only at h9; omega))
                    clear ha hb HST hX hy HP
                    refine wp_region_quiet_later (by kernel_rfl) (by kernel_rfl) ?_
                    repeat (go_big_quiet_step (fail))
                    go_big_quiet_step ((go_at_call 86; exact Calls.later_of (HMa.out _)))
                    repeat (go_big_quiet_step (fail))
                    go_big_quiet_step ((go_at_call 86; exact Calls.later_of (HMb.out _)))
                    repeat (go_big_quiet_step (fail))
                    refine wpQuiet_nil ?_
                    rintro _ ⟨p, rfl⟩
                    go_wp2_with fail
                    go_meet
                    case rel => exact ⟨true, rfl, HF, Lib.hid p.h⟩
                  · have d41 : decide (x.lo ≤ y.hi) = false := decide_eq_false c41
                    have n41 : y.hi < x.lo := by omega
                    by_cases c50 : x.k < 1
                    · have d50 : decide (x.k < 1) = true := decide_eq_true c50
                      have HF := Lib.hid (TB.t (A := ¬ (okE (lastE (fun x : Sg => (x.lo, x.hi)) l k) x.lo x.hi ∧ jnB x = true)) (fun h => by have := jnB_iff.1 h.2; omega))
                      clear ha hb HST hX hy HP
                      refine wp_region_quiet_later (by kernel_rfl) (by kernel_rfl) ?_
                      repeat (go_big_quiet_step (fail))
                      go_big_quiet_step ((go_at_call 86; exact Calls.later_of (HMa.out _)))
                      repeat (go_big_quiet_step (fail))
                      go_big_quiet_step ((go_at_call 86; exact Calls.later_of (HMb.out _)))
                      repeat (go_big_quiet_step (fail))
                      refine wpQuiet_nil ?_
                      rintro _ ⟨p, rfl⟩
                      go_wp2_with fail
                      go_meet
                      case rel => exact ⟨true, rfl, HF, Lib.hid p.h⟩
                    · have d50 : decide (x.k < 1) = false := decide_eq_false c50
                      have n50 : 1 ≤ x.k := by omega
                      by_cases c60 : 5 ≤ x.k
                      · have d60 : decide (5 ≤ x.k) = true := decide_eq_true c60
                        have HF := Lib.hid (TB.t (A := ¬ (okE (lastE (fun x : Sg => (x.lo, x.hi)) l k) x.lo x.hi ∧ jnB x = true)) (fun h => by have := jnB_iff.1 h.2; omega))
                        clear ha hb HST hX hy HP
                        refine wp_region_quiet_later (by kernel_rfl) (by kernel_rfl) ?_
                        repeat (go_big_quiet_step (fail))
                        go_big_quiet_step ((go_at_call 86; exact Calls.later_of (HMa.out _)))
                        repeat (go_big_quiet_step (fail))
                        go_big_quiet_step ((go_at_call 86; exact Calls.later_of (HMb.out _)))
                        repeat (go_big_quiet_step (fail))
                        refine wpQuiet_nil ?_
                        rintro _ ⟨p, rfl⟩
                        go_wp2_with fail
                        go_meet
                        case rel => exact ⟨true, rfl, HF, Lib.hid p.h⟩
                      · have d60 : decide (5 ≤ x.k) = false := decide_eq_false c60
                        have n60 : x.k < 5 := by omega
                        have HF := Lib.hid (TB.f (A := ¬ (okE (lastE (fun x : Sg => (x.lo, x.hi)) l k) x.lo x.hi ∧ jnB x = true)) (fun h => h ⟨⟨by omega, of_decide_eq_true ha, of_decide_eq_true hb, by omega, fun p hp => by rw [lastE_some HK0.out hy] at hp; cases hp; dsimp only; omega⟩, jnB_iff.2 ⟨by omega, by omega⟩⟩))
                        clear ha hb HST hX hy HP
                        refine wp_region_quiet_later (by kernel_rfl) (by kernel_rfl) ?_
                        repeat (go_big_quiet_step (fail))
                        go_big_quiet_step ((go_at_call 86; exact Calls.later_of (HMa.out _)))
                        repeat (go_big_quiet_step (fail))
                        go_big_quiet_step ((go_at_call 86; exact Calls.later_of (HMb.out _)))
                        repeat (go_big_quiet_step (fail))
                        refine wpQuiet_nil ?_
                        rintro _ ⟨p, rfl⟩
                        go_wp2_with fail
                        go_meet
                        case rel => exact ⟨false, rfl, HF, Lib.hid p.h⟩
                · have hk0 : k = 0 := by omega
                  have k1 : ¬ (0 : Int) < (k : Int) := by omega
                  have k2 : decide ((0 : Int) < (k : Int)) = false := decide_eq_false k1
                  have k3 : decide (0 < k) = false := decide_eq_false k0
                  have HK0 := Lib.hid hk0
                  clear hk0
                  by_cases c50 : x.k < 1
                  · have d50 : decide (x.k < 1) = true := decide_eq_true c50
                    have HF := Lib.hid (TB.t (A := ¬ (okE (lastE (fun x : Sg => (x.lo, x.hi)) l k) x.lo x.hi ∧ jnB x = true)) (fun h => by have := jnB_iff.1 h.2; omega))
                    clear ha hb HST hX HP
                    refine wp_region_quiet_later (by kernel_rfl) (by kernel_rfl) ?_
                    repeat (go_big_quiet_step (fail))
                    go_big_quiet_step ((go_at_call 86; exact Calls.later_of (HMa.out _)))
                    repeat (go_big_quiet_step (fail))
                    go_big_quiet_step ((go_at_call 86; exact Calls.later_of (HMb.out _)))
                    repeat (go_big_quiet_step (fail))
                    refine wpQuiet_nil ?_
                    rintro _ ⟨p, rfl⟩
                    go_wp2_with fail
                    go_meet
                    case rel => exact ⟨true, rfl, HF, Lib.hid p.h⟩
                  · have d50 : decide (x.k < 1) = false := decide_eq_false c50
                    have n50 : 1 ≤ x.k := by omega
                    by_cases c60 : 5 ≤ x.k
                    · have d60 : decide (5 ≤ x.k) = true := decide_eq_true c60
                      have HF := Lib.hid (TB.t (A := ¬ (okE (lastE (fun x : Sg => (x.lo, x.hi)) l k) x.lo x.hi ∧ jnB x = true)) (fun h => by have := jnB_iff.1 h.2; omega))
                      clear ha hb HST hX HP
                      refine wp_region_quiet_later (by kernel_rfl) (by kernel_rfl) ?_
                      repeat (go_big_quiet_step (fail))
                      go_big_quiet_step ((go_at_call 86; exact Calls.later_of (HMa.out _)))
                      repeat (go_big_quiet_step (fail))
                      go_big_quiet_step ((go_at_call 86; exact Calls.later_of (HMb.out _)))
                      repeat (go_big_quiet_step (fail))
                      refine wpQuiet_nil ?_
                      rintro _ ⟨p, rfl⟩
                      go_wp2_with fail
                      go_meet
                      case rel => exact ⟨true, rfl, HF, Lib.hid p.h⟩
                    · have d60 : decide (5 ≤ x.k) = false := decide_eq_false c60
                      have n60 : x.k < 5 := by omega
                      have HF := Lib.hid (TB.f (A := ¬ (okE (lastE (fun x : Sg => (x.lo, x.hi)) l k) x.lo x.hi ∧ jnB x = true)) (fun h => h ⟨⟨by omega, of_decide_eq_true ha, of_decide_eq_true hb, by omega, fun p hp => by rw [lastE_zero HK0.out] at hp; cases hp⟩, jnB_iff.2 ⟨by omega, by omega⟩⟩))
                      clear ha hb HST hX HP
                      refine wp_region_quiet_later (by kernel_rfl) (by kernel_rfl) ?_
                      repeat (go_big_quiet_step (fail))
                      go_big_quiet_step ((go_at_call 86; exact Calls.later_of (HMa.out _)))
                      repeat (go_big_quiet_step (fail))
                      go_big_quiet_step ((go_at_call 86; exact Calls.later_of (HMb.out _)))
                      repeat (go_big_quiet_step (fail))
                      refine wpQuiet_nil ?_
                      rintro _ ⟨p, rfl⟩
                      go_wp2_with fail
                      go_meet
                      case rel => exact ⟨false, rfl, HF, Lib.hid p.h⟩
      case rest =>
        obtain ⟨t, rfl, HF, HBc⟩ := hcut
        have HBz := Lib.hid (HBW.out.trans (HBc.out.mono HBW.out.size))
        clear hx z0 z1 z2 HP ha hb HX
        cases t with
        | true =>
          have HZ := Lib.hid (seg_no HST.out HF.out.yes)
          go_wp2_with fail
          go_ret
          exact ⟨by rw [HZ.out]; rfl, HBz.out⟩
        | false =>
          have HZ := Lib.hid (seg_yes HST.out HF.out.no)
          go_wp2_with fail
          go_roundw
          case rel => exact ⟨k + 1, by omega, by go_num, HZ, HBz⟩
          case measure => simp [intOf]; omega
    · have HZ := Lib.hid (HS.out.trans (segs_end (by rw [HN.out]; omega)))
      go_wp2_with fail
      go_ret
      exact ⟨by rw [HZ.out]; rfl, HB.out⟩
end Go.Proofs.YtbclodbneonipaaGreat
