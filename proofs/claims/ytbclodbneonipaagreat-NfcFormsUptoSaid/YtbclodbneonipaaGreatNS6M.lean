/-
  The document's pairs (tables).
-/
import Derived.Test.YtbclodbneonipaaGreatNS1M
namespace Go.Proofs.YtbclodbneonipaaGreat
open Go.RowKit N
theorem okPa_split {x : Pa} : okPa x = true ↔ (U.May x.a ∧ U.May x.b ∧ x.a < x.r ∧ x.b < x.r ∧ (x.b ≠ 0 ∨ x.one = true)) := by
  unfold okPa
  simp only [Bool.and_eq_true, Bool.or_eq_true, decide_eq_true_eq]
theorem pairsR_step {l : List Pa} {k : Nat} {x : Pa} (h : l[k]? = some x) : pairsR (l.take k) (l.drop k) = ((!((l.take k).any (clash x))) && pairsR (l.take (k + 1)) (l.drop (k + 1))) := by
  obtain ⟨hk, e⟩ := List.getElem?_eq_some_iff.1 h
  rw [List.drop_eq_getElem_cons hk, e, pairsR, take_snoc l k hk, e]
theorem pair_no {b c d e : Bool} {A : Prop} [Decidable A] (h : b = ((decide A && (c && d)) && e)) (hn : ¬ (A ∧ c = true)) : b = false := by
  rw [h]
  by_cases ha : A
  · cases c with
    | true => exact absurd ⟨ha, rfl⟩ hn
    | false => simp
  · simp [ha]
theorem pair_yes {b c d e : Bool} {A : Prop} [Decidable A] (h : b = ((decide A && (c && d)) && e)) (hn : ¬ ¬ (A ∧ c = true)) : b = (d && e) := by
  have ha := Classical.not_not.1 hn
  rw [h, ha.2]; simp [ha.1]
theorem pair_no2 {b d e f : Bool} (h : b = (d && ((!e) && f))) (he : e = true) : b = false := by rw [h, he]; simp
theorem pair_yes2 {b d e f : Bool} (h : b = (d && ((!e) && f))) (he : e = false) : b = (d && f) := by rw [h, he]; simp
theorem any_in {l : List Pa} {k j : Nat} {f : Pa → Bool} {y : Pa} (h : l[j]? = some y) (hj : j < k) (hf : f y = true) : (l.take k).any f = true := by
  rw [List.any_eq_true]
  refine ⟨y, List.mem_of_getElem? (i := j) ?_, hf⟩
  rw [List.getElem?_take_of_lt hj]; exact h
theorem any_snoc {l : List Pa} {j : Nat} {f : Pa → Bool} {y : Pa} (h : l[j]? = some y) (h0 : (l.take j).any f = false) (hf : ¬ f y = true) : (l.take (j + 1)).any f = false := by
  obtain ⟨h1, h2⟩ := List.getElem?_eq_some_iff.1 h
  rw [take_snoc l j h1, h2, List.any_append, h0]
  simp [hf]
set_option maxHeartbeats 16000000 in
set_option maxRecDepth 100000 in
theorem rpairs_is (v : Value) (l : List Pa) (b : Bool) (hb : pairsD l = b) (w : World) (h : Lst w 4 encPa v l) (hl : l.length ≤ 35184372088320) (hv : ∀ p c, v = .slice p l.length c → l.length ≤ c) : Calls Tryz.prog 42 #[v] w fun e w' => e = .returned (.bool b) ∧ Below w.heap.size w w' := by
  obtain ⟨p, cap, rfl, hn, hcc⟩ := h
  have hcap := hv p cap rfl
  have HC := Lib.hid hcc
  have HS0 := Lib.hid (show b = (segs (fun x : Pa => (x.r, x.r)) okPa (lastE (fun x : Pa => (x.r, x.r)) l 0) (l.drop 0) && pairsR (l.take 0) (l.drop 0)) from hb.symm)
  obtain ⟨n, hn'⟩ : ∃ n, l.length = n := ⟨_, rfl⟩
  rw [hn'] at hl hcap ⊢
  have HN := Lib.hid hn'
  clear hcc hb hn hn' hv
  go_enter Tryz.func42, Tryz.ntmps42
  go_wp2_with fail
  go_loopw [9] (fun i wr => ∃ k : Nat, k ≤ n ∧ i = .int .i64 k ∧ Hid (b = (segs (fun x : Pa => (x.r, x.r)) okPa (lastE (fun x : Pa => (x.r, x.r)) l k) (l.drop k) && pairsR (l.take k) (l.drop k))) ∧ Hid (Below w.heap.size w wr)) (fun i _ => n - (intOf i).toNat)
  case atStart => exact ⟨0, by omega, rfl, HS0, Lib.hid (Below.refl _ _)⟩
  case round =>
    clear HS0
    obtain ⟨k, hk, rfl, HS, HB⟩ := hrel
    by_cases hlt : k < n
    · have hkl : k < l.length := by rw [HN.out]; exact hlt
      have i1 : (k : Int) < (n : Int) := by omega
      have i2 : (k : Int) ≤ (cap : Int) := by omega
      have i3 : k ≤ cap := by omega
      obtain ⟨x, hx⟩ : ∃ x, l[k]? = some x := ⟨_, List.getElem?_eq_getElem hkl⟩
      obtain ⟨g, of, rfl, hg, hcx⟩ := HC.out k x hx
      obtain ⟨xo, hxo⟩ : ∃ xo, x.one = xo := ⟨_, rfl⟩
      have HXO := Lib.hid hxo
      have c0 : wr.cell? ⟨g, of + k * 4, none⟩ = some (.int .i32 x.r) := (HB.out.cell (p := ⟨g, of + k * 4, none⟩) hg).trans (hcx 0 _ rfl)
      have c1 : wr.cell? ⟨g, of + k * 4 + 1, none⟩ = some (.int .i32 x.a) := (HB.out.cell (p := ⟨g, of + k * 4 + 1, none⟩) hg).trans (hcx 1 _ rfl)
      have c2 : wr.cell? ⟨g, of + k * 4 + 2, none⟩ = some (.int .i32 x.b) := (HB.out.cell (p := ⟨g, of + k * 4 + 2, none⟩) hg).trans (hcx 2 _ rfl)
      have c3 : wr.cell? ⟨g, of + k * 4 + 3, none⟩ = some (.bool xo) := (HB.out.cell (p := ⟨g, of + k * 4 + 3, none⟩) hg).trans ((hcx 3 _ rfl).trans (by rw [hxo]))
      have HST := Lib.hid (show b = ((decide (okE (lastE (fun x : Pa => (x.r, x.r)) l k) x.r x.r) && (okPa x && segs (fun x : Pa => (x.r, x.r)) okPa (lastE (fun x : Pa => (x.r, x.r)) l (k + 1)) (l.drop (k + 1)))) && ((!((l.take k).any (clash x))) && pairsR (l.take (k + 1)) (l.drop (k + 1)))) from by
        rw [HS.out, segs_step hx, pairsR_step hx])
      clear hcx hkl hxo
      obtain ⟨X, hX⟩ : ∃ X, wr.alloc (.cells #[.int .i32 x.r, .int .i32 x.a, .int .i32 x.b, .bool xo] 52) = X := ⟨_, rfl⟩
      have HBX := Lib.hid (show Below wr.heap.size wr X from hX ▸ bnew wr _)
      have HX := Lib.hid (show Has X wr.heap.size (.cells #[.int .i32 x.r, .int .i32 x.a, .int .i32 x.b, .bool xo] 52) from hX ▸ Has.new wr _)
      have HBW := Lib.hid (HB.out.trans (HBX.out.mono HB.out.size))
      have z0 : ∀ p : Later X, p.v.cell? ⟨wr.heap.size, 0, none⟩ = some (.int .i32 x.r) := fun p => (HX.out.to p.h).cell 0 rfl
      have z1 : ∀ p : Later X, p.v.cell? ⟨wr.heap.size, 1, none⟩ = some (.int .i32 x.a) := fun p => (HX.out.to p.h).cell 1 rfl
      have z2 : ∀ p : Later X, p.v.cell? ⟨wr.heap.size, 2, none⟩ = some (.int .i32 x.b) := fun p => (HX.out.to p.h).cell 2 rfl
      have z3 : ∀ p : Later X, p.v.cell? ⟨wr.heap.size, 3, none⟩ = some (.bool xo) := fun p => (HX.out.to p.h).cell 3 rfl
      go_upto_region 4 with fail
      obtain ⟨mr, hr⟩ : ∃ mb, decide (U.May x.r) = mb := ⟨_, rfl⟩
      have HMr := Lib.hid (fun W : World => show Calls Tryz.prog 86 #[.int .i32 x.r] W fun e w' => e = .returned (.bool mr) ∧ Below W.heap.size W w' from (rmay_is x.r mr hr W).mono fun e w' h => ⟨h.1, h.2 ▸ Below.refl _ _⟩)
      obtain ⟨ma, ha⟩ : ∃ mb, decide (U.May x.a) = mb := ⟨_, rfl⟩
      have HMa := Lib.hid (fun W : World => show Calls Tryz.prog 86 #[.int .i32 x.a] W fun e w' => e = .returned (.bool ma) ∧ Below W.heap.size W w' from (rmay_is x.a ma ha W).mono fun e w' h => ⟨h.1, h.2 ▸ Below.refl _ _⟩)
      obtain ⟨mb, hb⟩ : ∃ mb, decide (U.May x.b) = mb := ⟨_, rfl⟩
      have HMb := Lib.hid (fun W : World => show Calls Tryz.prog 86 #[.int .i32 x.b] W fun e w' => e = .returned (.bool mb) ∧ Below W.heap.size W w' from (rmay_is x.b mb hb W).mono fun e w' h => ⟨h.1, h.2 ▸ Below.refl _ _⟩)
      have HP := Lib.hid (fun kp (h0 : kp < k) => show ∃ y, l[kp]? = some y ∧ ∀ p : Later X, p.v.cell? ⟨g, of + kp * 4, none⟩ = some (.int .i32 y.r) from by
        obtain ⟨y, hy⟩ : ∃ y, l[kp]? = some y := ⟨_, List.getElem?_eq_getElem (by rw [HN.out]; omega)⟩
        obtain ⟨g', of', e', hg', hcy⟩ := HC.out kp y hy
        simp only [Option.some.injEq, Addr.mk.injEq, and_true] at e'
        obtain ⟨rfl, rfl⟩ := e'
        refine ⟨y, hy, fun p => ?_⟩
        have h1 := (HBW.out.cell (p := ⟨g, of + kp * 4, none⟩) hg).trans (hcy 0 _ rfl)
        exact (p.h.cell (p := ⟨g, of + kp * 4, none⟩) (Nat.lt_of_lt_of_le hg HBW.out.size)).trans h1)
      clear c0 c1 c2 c3
      go_cut [68] from 14 to 68 (fun sb wc => ∃ t : Bool, sb = .bool t ∧ Hid (TB t (¬ (okE (lastE (fun x : Pa => (x.r, x.r)) l k) x.r x.r ∧ okPa x = true))) ∧ Hid (Below X.heap.size X wc))
      case first =>
        clear hx
        cases mr with
        | false =>
          have HF := Lib.hid (TB.t (A := ¬ (okE (lastE (fun x : Pa => (x.r, x.r)) l k) x.r x.r ∧ okPa x = true)) (fun h => of_decide_eq_false hr h.1.2.1))
          clear hr ha hb HST hX HP
          refine wp_region_quiet_later (by kernel_rfl) (by kernel_rfl) ?_
          repeat (go_big_quiet_step (fail))
          go_big_quiet_step ((go_at_call 86; exact Calls.later_of (HMr.out _)))
          repeat (go_big_quiet_step (fail))
          refine wpQuiet_nil ?_
          rintro _ ⟨p, rfl⟩
          go_wp2_with fail
          go_meet
          case rel => exact ⟨true, rfl, HF, Lib.hid p.h⟩
        | true =>
          cases ma with
          | false =>
            have HF := Lib.hid (TB.t (A := ¬ (okE (lastE (fun x : Pa => (x.r, x.r)) l k) x.r x.r ∧ okPa x = true)) (fun h => of_decide_eq_false ha (okPa_split.1 h.2).1))
            clear hr ha hb HST hX HP
            refine wp_region_quiet_later (by kernel_rfl) (by kernel_rfl) ?_
            repeat (go_big_quiet_step (fail))
            go_big_quiet_step ((go_at_call 86; exact Calls.later_of (HMr.out _)))
            repeat (go_big_quiet_step (fail))
            go_big_quiet_step ((go_at_call 86; exact Calls.later_of (HMa.out _)))
            repeat (go_big_quiet_step (fail))
            refine wpQuiet_nil ?_
            rintro _ ⟨p, rfl⟩
            go_wp2_with fail
            go_meet
            case rel => exact ⟨true, rfl, HF, Lib.hid p.h⟩
          | true =>
            cases mb with
            | false =>
              have HF := Lib.hid (TB.t (A := ¬ (okE (lastE (fun x : Pa => (x.r, x.r)) l k) x.r x.r ∧ okPa x = true)) (fun h => of_decide_eq_false hb (okPa_split.1 h.2).2.1))
              clear hr ha hb HST hX HP
              refine wp_region_quiet_later (by kernel_rfl) (by kernel_rfl) ?_
              repeat (go_big_quiet_step (fail))
              go_big_quiet_step ((go_at_call 86; exact Calls.later_of (HMr.out _)))
              repeat (go_big_quiet_step (fail))
              go_big_quiet_step ((go_at_call 86; exact Calls.later_of (HMa.out _)))
              repeat (go_big_quiet_step (fail))
              go_big_quiet_step ((go_at_call 86; exact Calls.later_of (HMb.out _)))
              repeat (go_big_quiet_step (fail))
              refine wpQuiet_nil ?_
              rintro _ ⟨p, rfl⟩
              go_wp2_with fail
              go_meet
              case rel => exact ⟨true, rfl, HF, Lib.hid p.h⟩
            | true =>
              by_cases k0 : 0 < k
              · have k1 : (0 : Int) < (k : Int) := by omega
                have k2 : decide ((0 : Int) < (k : Int)) = true := decide_eq_true k1
                have k3 : decide (0 < k) = true := decide_eq_true k0
                obtain ⟨kp, hkp⟩ : ∃ kp, k = kp + 1 := ⟨k - 1, by omega⟩
                have wk : IntKind.i64.wrap ((k : Int) - 1) = (kp : Int) := by rw [IntWalk.i64_in _ (by omega)]; omega
                have hkpn : kp < n := by omega
                obtain ⟨y, hy', hcy⟩ := HP.out kp (by omega)
                have hy : l[k - 1]? = some y := by rw [hkp, Nat.add_sub_cancel]; exact hy'
                have HK0 := Lib.hid k0
                clear hkp hy'
                by_cases c31 : x.r ≤ y.r
                · have d31 : decide (x.r ≤ y.r) = true := decide_eq_true c31
                  have HF := Lib.hid (TB.t (A := ¬ (okE (lastE (fun x : Pa => (x.r, x.r)) l k) x.r x.r ∧ okPa x = true)) (fun h => by have h9 := h.1.2.2.2.2 _ (lastE_some HK0.out hy); dsimp only at h9; omega))
                  clear hr ha hb HST hX hy HP
                  refine wp_region_quiet_later (by kernel_rfl) (by kernel_rfl) ?_
                  repeat (go_big_quiet_step (fail))
                  go_big_quiet_step ((go_at_call 86; exact Calls.later_of (HMr.out _)))
                  repeat (go_big_quiet_step (fail))
                  go_big_quiet_step ((go_at_call 86; exact Calls.later_of (HMa.out _)))
                  repeat (go_big_quiet_step (fail))
                  go_big_quiet_step ((go_at_call 86; exact Calls.later_of (HMb.out _)))
                  repeat (go_big_quiet_step (fail))
                  refine wpQuiet_nil ?_
                  rintro _ ⟨p, rfl⟩
                  go_wp2_with fail
                  go_meet
                  case rel => exact ⟨true, rfl, HF, Lib.hid p.h⟩
                · have d31 : decide (x.r ≤ y.r) = false := decide_eq_false c31
                  have n31 : y.r < x.r := by omega
                  by_cases c40 : x.r ≤ x.a
                  · have d40 : decide (x.r ≤ x.a) = true := decide_eq_true c40
                    have HF := Lib.hid (TB.t (A := ¬ (okE (lastE (fun x : Pa => (x.r, x.r)) l k) x.r x.r ∧ okPa x = true)) (fun h => by have := (okPa_split.1 h.2).2.2.1; omega))
                    clear hr ha hb HST hX hy HP
                    refine wp_region_quiet_later (by kernel_rfl) (by kernel_rfl) ?_
                    repeat (go_big_quiet_step (fail))
                    go_big_quiet_step ((go_at_call 86; exact Calls.later_of (HMr.out _)))
                    repeat (go_big_quiet_step (fail))
                    go_big_quiet_step ((go_at_call 86; exact Calls.later_of (HMa.out _)))
                    repeat (go_big_quiet_step (fail))
                    go_big_quiet_step ((go_at_call 86; exact Calls.later_of (HMb.out _)))
                    repeat (go_big_quiet_step (fail))
                    refine wpQuiet_nil ?_
                    rintro _ ⟨p, rfl⟩
                    go_wp2_with fail
                    go_meet
                    case rel => exact ⟨true, rfl, HF, Lib.hid p.h⟩
                  · have d40 : decide (x.r ≤ x.a) = false := decide_eq_false c40
                    have n40 : x.a < x.r := by omega
                    by_cases c50 : x.r ≤ x.b
                    · have d50 : decide (x.r ≤ x.b) = true := decide_eq_true c50
                      have HF := Lib.hid (TB.t (A := ¬ (okE (lastE (fun x : Pa => (x.r, x.r)) l k) x.r x.r ∧ okPa x = true)) (fun h => by have := (okPa_split.1 h.2).2.2.2.1; omega))
                      clear hr ha hb HST hX hy HP
                      refine wp_region_quiet_later (by kernel_rfl) (by kernel_rfl) ?_
                      repeat (go_big_quiet_step (fail))
                      go_big_quiet_step ((go_at_call 86; exact Calls.later_of (HMr.out _)))
                      repeat (go_big_quiet_step (fail))
                      go_big_quiet_step ((go_at_call 86; exact Calls.later_of (HMa.out _)))
                      repeat (go_big_quiet_step (fail))
                      go_big_quiet_step ((go_at_call 86; exact Calls.later_of (HMb.out _)))
                      repeat (go_big_quiet_step (fail))
                      refine wpQuiet_nil ?_
                      rintro _ ⟨p, rfl⟩
                      go_wp2_with fail
                      go_meet
                      case rel => exact ⟨true, rfl, HF, Lib.hid p.h⟩
                    · have d50 : decide (x.r ≤ x.b) = false := decide_eq_false c50
                      have n50 : x.b < x.r := by omega
                      by_cases c60 : x.b = 0
                      · have d60 : (x.b == 0) = true := by rw [c60]; rfl
                        have e60 : decide (x.b = 0) = true := decide_eq_true c60
                        have C60 := Lib.hid c60
                        cases xo with
                        | false =>
                          have HF := Lib.hid (TB.t (A := ¬ (okE (lastE (fun x : Pa => (x.r, x.r)) l k) x.r x.r ∧ okPa x = true)) (fun h => by have h9 := (okPa_split.1 h.2).2.2.2.2; rw [HXO.out] at h9; exact h9.elim (fun e => e C60.out) (fun e => Bool.noConfusion e)))
                          clear hr ha hb HST hX hy c60 HP
                          refine wp_region_quiet_later (by kernel_rfl) (by kernel_rfl) ?_
                          repeat (go_big_quiet_step (fail))
                          go_big_quiet_step ((go_at_call 86; exact Calls.later_of (HMr.out _)))
                          repeat (go_big_quiet_step (fail))
                          go_big_quiet_step ((go_at_call 86; exact Calls.later_of (HMa.out _)))
                          repeat (go_big_quiet_step (fail))
                          go_big_quiet_step ((go_at_call 86; exact Calls.later_of (HMb.out _)))
                          repeat (go_big_quiet_step (fail))
                          refine wpQuiet_nil ?_
                          rintro _ ⟨p, rfl⟩
                          go_wp2_with fail
                          go_meet
                          case rel => exact ⟨true, rfl, HF, Lib.hid p.h⟩
                        | true =>
                          have HF := Lib.hid (TB.f (A := ¬ (okE (lastE (fun x : Pa => (x.r, x.r)) l k) x.r x.r ∧ okPa x = true)) (fun h => h ⟨⟨by omega, of_decide_eq_true hr, of_decide_eq_true hr, by omega, fun p hp => by rw [lastE_some HK0.out hy] at hp; cases hp; dsimp only; omega⟩, okPa_split.2 ⟨of_decide_eq_true ha, of_decide_eq_true hb, by omega, by omega, .inr HXO.out⟩⟩))
                          clear hr ha hb HST hX hy c60 HP
                          refine wp_region_quiet_later (by kernel_rfl) (by kernel_rfl) ?_
                          repeat (go_big_quiet_step (fail))
                          go_big_quiet_step ((go_at_call 86; exact Calls.later_of (HMr.out _)))
                          repeat (go_big_quiet_step (fail))
                          go_big_quiet_step ((go_at_call 86; exact Calls.later_of (HMa.out _)))
                          repeat (go_big_quiet_step (fail))
                          go_big_quiet_step ((go_at_call 86; exact Calls.later_of (HMb.out _)))
                          repeat (go_big_quiet_step (fail))
                          refine wpQuiet_nil ?_
                          rintro _ ⟨p, rfl⟩
                          go_wp2_with fail
                          go_meet
                          case rel => exact ⟨false, rfl, HF, Lib.hid p.h⟩
                      · have d60 : (x.b == 0) = false := by simpa using c60
                        have e60 : decide (x.b = 0) = false := decide_eq_false c60
                        have C60 := Lib.hid c60
                        have HF := Lib.hid (TB.f (A := ¬ (okE (lastE (fun x : Pa => (x.r, x.r)) l k) x.r x.r ∧ okPa x = true)) (fun h => h ⟨⟨by omega, of_decide_eq_true hr, of_decide_eq_true hr, by omega, fun p hp => by rw [lastE_some HK0.out hy] at hp; cases hp; dsimp only; omega⟩, okPa_split.2 ⟨of_decide_eq_true ha, of_decide_eq_true hb, by omega, by omega, .inl C60.out⟩⟩))
                        clear hr ha hb HST hX hy c60 HP
                        refine wp_region_quiet_later (by kernel_rfl) (by kernel_rfl) ?_
                        repeat (go_big_quiet_step (fail))
                        go_big_quiet_step ((go_at_call 86; exact Calls.later_of (HMr.out _)))
                        repeat (go_big_quiet_step (fail))
                        go_big_quiet_step ((go_at_call 86; exact Calls.later_of (HMa.out _)))
                        repeat (go_big_quiet_step (fail))
                        go_big_quiet_step ((go_at_call 86; exact Calls.later_of (HMb.out _)))
                        repeat (go_big_quiet_step (fail))
                        refine wpQuiet_nil ?_
                        rintro _ ⟨p, rfl⟩
                        go_wp2_with fail
                        go_meet
                        case rel => exact ⟨false, rfl, HF, Lib.hid p.h⟩
              · have hk0 : k = 0 := by omega
                have k1 : ¬ (0 : Int) < (k : Int) := by omega
                have k2 : decide ((0 : Int) < (k : Int)) = false := decide_eq_false k1
                have k3 : decide (0 < k) = false := decide_eq_false k0
                have HK0 := Lib.hid hk0
                clear hk0
                by_cases c40 : x.r ≤ x.a
                · have d40 : decide (x.r ≤ x.a) = true := decide_eq_true c40
                  have HF := Lib.hid (TB.t (A := ¬ (okE (lastE (fun x : Pa => (x.r, x.r)) l k) x.r x.r ∧ okPa x = true)) (fun h => by have := (okPa_split.1 h.2).2.2.1; omega))
                  clear hr ha hb HST hX HP
                  refine wp_region_quiet_later (by kernel_rfl) (by kernel_rfl) ?_
                  repeat (go_big_quiet_step (fail))
                  go_big_quiet_step ((go_at_call 86; exact Calls.later_of (HMr.out _)))
                  repeat (go_big_quiet_step (fail))
                  go_big_quiet_step ((go_at_call 86; exact Calls.later_of (HMa.out _)))
                  repeat (go_big_quiet_step (fail))
                  go_big_quiet_step ((go_at_call 86; exact Calls.later_of (HMb.out _)))
                  repeat (go_big_quiet_step (fail))
                  refine wpQuiet_nil ?_
                  rintro _ ⟨p, rfl⟩
                  go_wp2_with fail
                  go_meet
                  case rel => exact ⟨true, rfl, HF, Lib.hid p.h⟩
                · have d40 : decide (x.r ≤ x.a) = false := decide_eq_false c40
                  have n40 : x.a < x.r := by omega
                  by_cases c50 : x.r ≤ x.b
                  · have d50 : decide (x.r ≤ x.b) = true := decide_eq_true c50
                    have HF := Lib.hid (TB.t (A := ¬ (okE (lastE (fun x : Pa => (x.r, x.r)) l k) x.r x.r ∧ okPa x = true)) (fun h => by have := (okPa_split.1 h.2).2.2.2.1; omega))
                    clear hr ha hb HST hX HP
                    refine wp_region_quiet_later (by kernel_rfl) (by kernel_rfl) ?_
                    repeat (go_big_quiet_step (fail))
                    go_big_quiet_step ((go_at_call 86; exact Calls.later_of (HMr.out _)))
                    repeat (go_big_quiet_step (fail))
                    go_big_quiet_step ((go_at_call 86; exact Calls.later_of (HMa.out _)))
                    repeat (go_big_quiet_step (fail))
                    go_big_quiet_step ((go_at_call 86; exact Calls.later_of (HMb.out _)))
                    repeat (go_big_quiet_step (fail))
                    refine wpQuiet_nil ?_
                    rintro _ ⟨p, rfl⟩
                    go_wp2_with fail
                    go_meet
                    case rel => exact ⟨true, rfl, HF, Lib.hid p.h⟩
                  · have d50 : decide (x.r ≤ x.b) = false := decide_eq_false c50
                    have n50 : x.b < x.r := by omega
                    by_cases c60 : x.b = 0
                    · have d60 : (x.b == 0) = true := by rw [c60]; rfl
                      have e60 : decide (x.b = 0) = true := decide_eq_true c60
                      have C60 := Lib.hid c60
                      cases xo with
                      | false =>
                        have HF := Lib.hid (TB.t (A := ¬ (okE (lastE (fun x : Pa => (x.r, x.r)) l k) x.r x.r ∧ okPa x = true)) (fun h => by have h9 := (okPa_split.1 h.2).2.2.2.2; rw [HXO.out] at h9; exact h9.elim (fun e => e C60.out) (fun e => Bool.noConfusion e)))
                        clear hr ha hb HST hX c60 HP
                        refine wp_region_quiet_later (by kernel_rfl) (by kernel_rfl) ?_
                        repeat (go_big_quiet_step (fail))
                        go_big_quiet_step ((go_at_call 86; exact Calls.later_of (HMr.out _)))
                        repeat (go_big_quiet_step (fail))
                        go_big_quiet_step ((go_at_call 86; exact Calls.later_of (HMa.out _)))
                        repeat (go_big_quiet_step (fail))
                        go_big_quiet_step ((go_at_call 86; exact Calls.later_of (HMb.out _)))
                        repeat (go_big_quiet_step (fail))
                        refine wpQuiet_nil ?_
                        rintro _ ⟨p, rfl⟩
                        go_wp2_with fail
                        go_meet
                        case rel => exact ⟨true, rfl, HF, Lib.hid p.h⟩
                      | true =>
                        have HF := Lib.hid (TB.f (A := ¬ (okE (lastE (fun x : Pa => (x.r, x.r)) l k) x.r x.r ∧ okPa x = true)) (fun h => h ⟨⟨by omega, of_decide_eq_true hr, of_decide_eq_true hr, by omega, fun p hp => by rw [lastE_zero HK0.out] at hp; cases hp⟩, okPa_split.2 ⟨of_decide_eq_true ha, of_decide_eq_true hb, by omega, by omega, .inr HXO.out⟩⟩))
                        clear hr ha hb HST hX c60 HP
                        refine wp_region_quiet_later (by kernel_rfl) (by kernel_rfl) ?_
                        repeat (go_big_quiet_step (fail))
                        go_big_quiet_step ((go_at_call 86; exact Calls.later_of (HMr.out _)))
                        repeat (go_big_quiet_step (fail))
                        go_big_quiet_step ((go_at_call 86; exact Calls.later_of (HMa.out _)))
                        repeat (go_big_quiet_step (fail))
                        go_big_quiet_step ((go_at_call 86; exact Calls.later_of (HMb.out _)))
                        repeat (go_big_quiet_step (fail))
                        refine wpQuiet_nil ?_
                        rintro _ ⟨p, rfl⟩
                        go_wp2_with fail
                        go_meet
                        case rel => exact ⟨false, rfl, HF, Lib.hid p.h⟩
                    · have d60 : (x.b == 0) = false := by simpa using c60
                      have e60 : decide (x.b = 0) = false := decide_eq_false c60
                      have C60 := Lib.hid c60
                      have HF := Lib.hid (TB.f (A := ¬ (okE (lastE (fun x : Pa => (x.r, x.r)) l k) x.r x.r ∧ okPa x = true)) (fun h => h ⟨⟨by omega, of_decide_eq_true hr, of_decide_eq_true hr, by omega, fun p hp => by rw [lastE_zero HK0.out] at hp; cases hp⟩, okPa_split.2 ⟨of_decide_eq_true ha, of_decide_eq_true hb, by omega, by omega, .inl C60.out⟩⟩))
                      clear hr ha hb HST hX c60 HP
                      refine wp_region_quiet_later (by kernel_rfl) (by kernel_rfl) ?_
                      repeat (go_big_quiet_step (fail))
                      go_big_quiet_step ((go_at_call 86; exact Calls.later_of (HMr.out _)))
                      repeat (go_big_quiet_step (fail))
                      go_big_quiet_step ((go_at_call 86; exact Calls.later_of (HMa.out _)))
                      repeat (go_big_quiet_step (fail))
                      go_big_quiet_step ((go_at_call 86; exact Calls.later_of (HMb.out _)))
                      repeat (go_big_quiet_step (fail))
                      refine wpQuiet_nil ?_
                      rintro _ ⟨p, rfl⟩
                      go_wp2_with fail
                      go_meet
                      case rel => exact ⟨false, rfl, HF, Lib.hid p.h⟩
      case rest =>
      obtain ⟨t, rfl, HF, HBc⟩ := hcut
      have HBz := Lib.hid (HBW.out.trans (HBc.out.mono HBW.out.size))
      clear z0 z1 z2 z3 HP hr ha hb HMa HMb HMr ma mb mr
      cases t with
      | true =>
        have HZ := Lib.hid (pair_no HST.out HF.out.yes)
        go_wp2_with fail
        go_ret
        exact ⟨by rw [HZ.out]; rfl, HBz.out⟩
      | false =>
      have HS2 := Lib.hid (pair_yes HST.out HF.out.no)
      have HXc := Lib.hid (HX.out.to HBc.out)
      clear HST HF HX hX HBX
      go_wp2_with fail
      go_loopw [73] (fun i w3 => ∃ j : Nat, j ≤ k ∧ i = .int .i64 j ∧ Hid ((l.take j).any (clash x) = false) ∧ Hid (Below wc.heap.size wc w3)) (fun i _ => k - (intOf i).toNat)
      case atStart => exact ⟨0, by omega, rfl, Lib.hid rfl, Lib.hid (Below.refl _ _)⟩
      case round =>
        rename World => w3
        obtain ⟨j, hj, rfl, HJ, HB3⟩ := hrel
        have HBv := Lib.hid (HBz.out.trans (HB3.out.mono HBz.out.size))
        by_cases hjl : j < k
        · obtain ⟨y, hy⟩ : ∃ y, l[j]? = some y := ⟨_, List.getElem?_eq_getElem (by rw [HN.out]; omega)⟩
          obtain ⟨g', of', e', hg', hcy⟩ := HC.out j y hy
          simp only [Option.some.injEq, Addr.mk.injEq, and_true] at e'
          obtain ⟨rfl, rfl⟩ := e'
          obtain ⟨yo, hyo⟩ : ∃ yo, y.one = yo := ⟨_, rfl⟩
          have HYO := Lib.hid hyo
          have j1 : (j : Int) < (k : Int) := by omega
          have c0 : w3.cell? ⟨g, of + j * 4, none⟩ = some (.int .i32 y.r) := (HBv.out.cell (p := ⟨g, of + j * 4, none⟩) hg).trans (hcy 0 _ rfl)
          have c1 : w3.cell? ⟨g, of + j * 4 + 1, none⟩ = some (.int .i32 y.a) := (HBv.out.cell (p := ⟨g, of + j * 4 + 1, none⟩) hg).trans (hcy 1 _ rfl)
          have c2 : w3.cell? ⟨g, of + j * 4 + 2, none⟩ = some (.int .i32 y.b) := (HBv.out.cell (p := ⟨g, of + j * 4 + 2, none⟩) hg).trans (hcy 2 _ rfl)
          have c3 : w3.cell? ⟨g, of + j * 4 + 3, none⟩ = some (.bool yo) := (HBv.out.cell (p := ⟨g, of + j * 4 + 3, none⟩) hg).trans ((hcy 3 _ rfl).trans (by rw [hyo]))
          clear hcy hyo
          obtain ⟨Y, hY⟩ : ∃ Y, w3.alloc (.cells #[.int .i32 y.r, .int .i32 y.a, .int .i32 y.b, .bool yo] 52) = Y := ⟨_, rfl⟩
          have HBY := Lib.hid (show Below w3.heap.size w3 Y from hY ▸ bnew w3 _)
          have HY := Lib.hid (show Has Y w3.heap.size (.cells #[.int .i32 y.r, .int .i32 y.a, .int .i32 y.b, .bool yo] 52) from hY ▸ Has.new w3 _)
          have HXY := Lib.hid ((HXc.out.to HB3.out).to HBY.out)
          have HBt := Lib.hid (HB3.out.trans (HBY.out.mono HB3.out.size))
          have z1 : Y.cell? ⟨wr.heap.size, 1, none⟩ = some (.int .i32 x.a) := HXY.out.cell 1 rfl
          have z2 : Y.cell? ⟨wr.heap.size, 2, none⟩ = some (.int .i32 x.b) := HXY.out.cell 2 rfl
          have z3 : Y.cell? ⟨wr.heap.size, 3, none⟩ = some (.bool xo) := HXY.out.cell 3 rfl
          have y1 : Y.cell? ⟨w3.heap.size, 1, none⟩ = some (.int .i32 y.a) := HY.out.cell 1 rfl
          have y2 : Y.cell? ⟨w3.heap.size, 2, none⟩ = some (.int .i32 y.b) := HY.out.cell 2 rfl
          have y3 : Y.cell? ⟨w3.heap.size, 3, none⟩ = some (.bool yo) := HY.out.cell 3 rfl
          go_upto_region 9 with fail
          clear c0 c1 c2 c3
          go_cut [98] from 77 to 98 (fun sb wd => ∃ t : Bool, sb = .bool t ∧ Hid (TB t (clash x y = true)) ∧ Hid (Below Y.heap.size Y wd))
          case first =>
            clear hx hy
            cases xo with
            | false =>
              cases yo with
              | false =>
                by_cases c02 : x.a = y.a
                · have d02 : (x.a == y.a) = true := beq_iff_eq.2 c02
                  have e02 : decide (x.a = y.a) = true := decide_eq_true c02
                  have C02 := Lib.hid c02
                  by_cases c03 : x.b = y.b
                  · have d03 : (x.b == y.b) = true := beq_iff_eq.2 c03
                    have e03 : decide (x.b = y.b) = true := decide_eq_true c03
                    have C03 := Lib.hid c03
                    have HF := Lib.hid (TB.t (A := clash x y = true) (by unfold clash; simp [HXO.out, HYO.out, C02.out, C03.out]))
                    clear hY c02 c03
                    go_wp2_with fail
                    go_meet
                    case rel => exact ⟨true, rfl, HF, Lib.hid (Below.refl _ _)⟩
                  · have d03 : (x.b == y.b) = false := beq_eq_false_iff_ne.2 c03
                    have e03 : decide (x.b = y.b) = false := decide_eq_false c03
                    have C03 := Lib.hid c03
                    have HF := Lib.hid (TB.f (A := clash x y = true) (by unfold clash; simp [HXO.out, HYO.out, C02.out, C03.out]))
                    clear hY c02 c03
                    go_wp2_with fail
                    go_meet
                    case rel => exact ⟨false, rfl, HF, Lib.hid (Below.refl _ _)⟩
                · have d02 : (x.a == y.a) = false := beq_eq_false_iff_ne.2 c02
                  have e02 : decide (x.a = y.a) = false := decide_eq_false c02
                  have C02 := Lib.hid c02
                  have HF := Lib.hid (TB.f (A := clash x y = true) (by unfold clash; simp [HXO.out, HYO.out, C02.out]))
                  clear hY c02
                  go_wp2_with fail
                  go_meet
                  case rel => exact ⟨false, rfl, HF, Lib.hid (Below.refl _ _)⟩
              | true =>
                have HF := Lib.hid (TB.f (A := clash x y = true) (by unfold clash; simp [HXO.out, HYO.out]))
                clear hY
                go_wp2_with fail
                go_meet
                case rel => exact ⟨false, rfl, HF, Lib.hid (Below.refl _ _)⟩
            | true =>
              have HF := Lib.hid (TB.f (A := clash x y = true) (by unfold clash; simp [HXO.out, HYO.out]))
              clear hY
              go_wp2_with fail
              go_meet
              case rel => exact ⟨false, rfl, HF, Lib.hid (Below.refl _ _)⟩
          case rest =>
            rename World => wd
            obtain ⟨t, rfl, HG, HBd⟩ := hcut
            have HBs := Lib.hid (HBt.out.trans (HBd.out.mono HBt.out.size))
            have HBq := Lib.hid (HBz.out.trans (HBs.out.mono HBz.out.size))
            clear z1 z2 z3 y1 y2 y3 hY HY
            cases t with
            | true =>
              have HZ := Lib.hid (pair_no2 HS2.out (any_in hy hjl HG.out.yes))
              go_wp2_with fail
              go_ret
              exact ⟨by rw [HZ.out]; rfl, HBq.out⟩
            | false =>
              have HJ2 := Lib.hid (any_snoc hy HJ.out HG.out.no)
              go_wp2_with fail
              go_roundw
              case rel => exact ⟨j + 1, by omega, by go_num, HJ2, HBs⟩
              case measure => simp [intOf]; omega
        · have HZ := Lib.hid (pair_yes2 HS2.out (by
            have e : j = k := by omega
            rw [← e]; exact HJ.out))
          go_wp2_with fail
          go_roundw
          case rel => exact ⟨k + 1, by omega, by go_num, HZ, HBv⟩
          case measure => simp [intOf]; omega
    · have HZ := Lib.hid (show b = true from by
        rw [HS.out, segs_end (by rw [HN.out]; omega), List.drop_eq_nil_of_le (by rw [HN.out]; omega), pairsR]; rfl)
      go_wp2_with fail
      go_ret
      exact ⟨by rw [HZ.out]; rfl, HB.out⟩
end Go.Proofs.YtbclodbneonipaaGreat
