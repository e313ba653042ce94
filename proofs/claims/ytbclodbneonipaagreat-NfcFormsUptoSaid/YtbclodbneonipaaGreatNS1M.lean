import Derived.Test.YtbclodbneonipaaGreatCKM
import Derived.Deep.CutRange
import Derived.BigQuiet
/-
  The document's May.
-/
namespace Go.Proofs.YtbclodbneonipaaGreat
open Go.RowKit N
set_option maxHeartbeats 1000000 in
theorem rmay_is (r : Int) (b : Bool) (hb : decide (U.May r) = b) (w : World) : Calls Tryz.prog 86 #[.int .i32 r] w fun e w' => e = .returned (.bool b) ∧ w = w' := by
  by_cases h0 : 0 ≤ r
  · have a0 : decide (0 ≤ r) = true := decide_eq_true h0
    by_cases h1 : r < 55296
    · have a1 : decide (r < 55296) = true := decide_eq_true h1
      have HB := Lib.hid (show true = b from by rw [← hb]; exact (decide_eq_true (.inl ⟨h0, h1⟩)).symm)
      clear hb
      go_enter Tryz.func86, Tryz.ntmps86
      go_wp2_with fail
      go_ret
      exact ⟨by first | rfl | (rw [← HB.out]; rfl), rfl⟩
    · have a1 : decide (r < 55296) = false := decide_eq_false h1
      by_cases h2 : 57343 < r
      · have a2 : decide (57343 < r) = true := decide_eq_true h2
        by_cases h3 : r ≤ 1114111
        · have a3 : decide (r ≤ 1114111) = true := decide_eq_true h3
          have HB := Lib.hid (show true = b from by rw [← hb]; exact (decide_eq_true (.inr ⟨h2, h3⟩)).symm)
          clear hb
          go_enter Tryz.func86, Tryz.ntmps86
          go_wp2_with fail
          go_ret
          exact ⟨by first | rfl | (rw [← HB.out]; rfl), rfl⟩
        · have a3 : decide (r ≤ 1114111) = false := decide_eq_false h3
          have HB := Lib.hid (show false = b from by rw [← hb]; exact (decide_eq_false (by unfold U.May; omega)).symm)
          clear hb
          go_enter Tryz.func86, Tryz.ntmps86
          go_wp2_with fail
          go_ret
          exact ⟨by first | rfl | (rw [← HB.out]; rfl), rfl⟩
      · have a2 : decide (57343 < r) = false := decide_eq_false h2
        have HB := Lib.hid (show false = b from by rw [← hb]; exact (decide_eq_false (by unfold U.May; omega)).symm)
        clear hb
        go_enter Tryz.func86, Tryz.ntmps86
        go_wp2_with fail
        go_ret
        exact ⟨by first | rfl | (rw [← HB.out]; rfl), rfl⟩
  · have a0 : decide (0 ≤ r) = false := decide_eq_false h0
    have a2 : decide (57343 < r) = false := decide_eq_false (by omega)
    have c2 : ¬ 57343 < r := by omega
    have HB := Lib.hid (show false = b from by rw [← hb]; exact (decide_eq_false (by unfold U.May; omega)).symm)
    clear hb
    go_enter Tryz.func86, Tryz.ntmps86
    go_wp2_with fail
    go_ret
    exact ⟨by first | rfl | (rw [← HB.out]; rfl), rfl⟩
end Go.Proofs.YtbclodbneonipaaGreat
/-
  What a test says; lists whose ends rise.
-/
namespace Go.Proofs.YtbclodbneonipaaGreat
open Go.RowKit N
/-- a Boolean says it -/
def TB (b : Bool) (A : Prop) : Prop := b = true ↔ A
theorem TB.t {A : Prop} (h : A) : TB true A := ⟨fun _ => h, fun _ => rfl⟩
theorem TB.f {A : Prop} (h : ¬ A) : TB false A := ⟨fun e => Bool.noConfusion e, fun a => absurd a h⟩
theorem TB.yes {A : Prop} (h : TB true A) : A := h.1 rfl
theorem TB.no {A : Prop} (h : TB false A) : ¬ A := fun a => Bool.noConfusion (h.2 a)
/-- where the one ahead ended -/
def lastE {α : Type} (ends : α → Int × Int) (l : List α) (k : Nat) : Option Int := if k = 0 then none else (l[k - 1]?).map fun x => (ends x).2
theorem lastE_zero {α : Type} {ends : α → Int × Int} {l : List α} {k : Nat} (h : k = 0) : lastE ends l k = none := if_pos h
theorem lastE_some {α : Type} {ends : α → Int × Int} {l : List α} {k : Nat} {y : α} (h0 : 0 < k) (h : l[k - 1]? = some y) : lastE ends l k = some (ends y).2 := by
  unfold lastE
  rw [if_neg (by omega), h]; rfl
theorem segs_step {α : Type} {ends : α → Int × Int} {ok : α → Bool} {l : List α} {k : Nat} {x : α} (h : l[k]? = some x) : segs ends ok (lastE ends l k) (l.drop k) = (decide (okE (lastE ends l k) (ends x).1 (ends x).2) && (ok x && segs ends ok (lastE ends l (k + 1)) (l.drop (k + 1)))) := by
  obtain ⟨hk, e⟩ := List.getElem?_eq_some_iff.1 h
  have h2 : lastE ends l (k + 1) = some (ends x).2 := by
    unfold lastE
    rw [if_neg (by omega), Nat.add_sub_cancel, h]; rfl
  rw [List.drop_eq_getElem_cons hk, e, h2, segs]
theorem segs_end {α : Type} {ends : α → Int × Int} {ok : α → Bool} {l : List α} {k : Nat} (h : l.length ≤ k) : segs ends ok (lastE ends l k) (l.drop k) = true := by
  rw [List.drop_eq_nil_of_le h, segs]
theorem seg_no {b c d : Bool} {A : Prop} [Decidable A] (h : b = (decide A && (c && d))) (hn : ¬ (A ∧ c = true)) : b = false := by
  rw [h]
  by_cases ha : A
  · cases c with
    | true => exact absurd ⟨ha, rfl⟩ hn
    | false => simp
  · simp [ha]
theorem seg_yes {b c d : Bool} {A : Prop} [Decidable A] (h : b = (decide A && (c && d))) (hn : ¬ ¬ (A ∧ c = true)) : b = d := by
  by_cases ha : A ∧ c = true
  · rw [h, ha.2]; simp [ha.1]
  · exact absurd ha hn
theorem clB_iff {x : Cl} : clB x = true ↔ 1 ≤ x.c ∧ x.c ≤ 254 := by unfold clB; rw [Bool.and_eq_true, decide_eq_true_eq, decide_eq_true_eq]
theorem wyB_iff {x : Sg} : wyB x = true ↔ 1 ≤ x.k ∧ x.k < 12 := by unfold wyB; rw [Bool.and_eq_true, decide_eq_true_eq, decide_eq_true_eq]; omega
theorem jnB_iff {x : Sg} : jnB x = true ↔ 1 ≤ x.k ∧ x.k < 5 := by unfold jnB; rw [Bool.and_eq_true, decide_eq_true_eq, decide_eq_true_eq]; omega
end Go.Proofs.YtbclodbneonipaaGreat
/-
  The document's classes (tables).
-/
namespace Go.Proofs.YtbclodbneonipaaGreat
open Go.RowKit N
set_option maxHeartbeats 16000000 in
set_option maxRecDepth 100000 in
theorem rclasses_is (v : Value) (l : List Cl) (b : Bool) (hb : classesD l = b) (w : World) (h : Lst w 2 encCl v l) (hl : l.length ≤ 35184372088320) : Calls Tryz.prog 41 #[v] w fun e w' => e = .returned (.bool b) ∧ Below w.heap.size w w' := by
  obtain ⟨p, cap, rfl, hn, hcc⟩ := h
  have HC := Lib.hid hcc
  have HS0 := Lib.hid (show b = segs (fun x : Cl => (x.r, x.r)) clB (lastE (fun x : Cl => (x.r, x.r)) l 0) (l.drop 0) from hb.symm)
  obtain ⟨n, hn'⟩ : ∃ n, l.length = n := ⟨_, rfl⟩
  rw [hn'] at hl ⊢
  have HN := Lib.hid hn'
  clear hcc hb hn hn'
  go_enter Tryz.func41, Tryz.ntmps41
  go_wp2_with fail
  go_loopw [7] (fun i wr => ∃ k : Nat, k ≤ n ∧ i = .int .i64 k ∧ Hid (b = segs (fun x : Cl => (x.r, x.r)) clB (lastE (fun x : Cl => (x.r, x.r)) l k) (l.drop k)) ∧ Hid (Below w.heap.size w wr)) (fun i _ => n - (intOf i).toNat)
  case atStart => exact ⟨0, by omega, rfl, HS0, Lib.hid (Below.refl _ _)⟩
  case round =>
    clear HS0
    obtain ⟨k, hk, rfl, HS, HB⟩ := hrel
    by_cases hlt : k < n
    · have hkl : k < l.length := by rw [HN.out]; exact hlt
      have i1 : (k : Int) < (n : Int) := by omega
      obtain ⟨x, hx⟩ : ∃ x, l[k]? = some x := ⟨_, List.getElem?_eq_getElem hkl⟩
      obtain ⟨g, of, rfl, hg, hcx⟩ := HC.out k x hx
      have c0 : wr.cell? ⟨g, of + k * 2, none⟩ = some (.int .i32 x.r) := (HB.out.cell (p := ⟨g, of + k * 2, none⟩) hg).trans (hcx 0 _ rfl)
      have c1 : wr.cell? ⟨g, of + k * 2 + 1, none⟩ = some (.int .u8 x.c) := (HB.out.cell (p := ⟨g, of + k * 2 + 1, none⟩) hg).trans (hcx 1 _ rfl)
      have HST := Lib.hid (HS.out.trans (segs_step hx))
      clear hcx hkl
      obtain ⟨X, hX⟩ : ∃ X, wr.alloc (.cells #[.int .i32 x.r, .int .u8 x.c] 50) = X := ⟨_, rfl⟩
      have HBX := Lib.hid (show Below wr.heap.size wr X from hX ▸ bnew wr _)
      have HX := Lib.hid (show Has X wr.heap.size (.cells #[.int .i32 x.r, .int .u8 x.c] 50) from hX ▸ Has.new wr _)
      have HBW := Lib.hid (HB.out.trans (HBX.out.mono HB.out.size))
      have z0 : ∀ p : Later X, p.v.cell? ⟨wr.heap.size, 0, none⟩ = some (.int .i32 x.r) := fun p => (HX.out.to p.h).cell 0 rfl
      have z1 : ∀ p : Later X, p.v.cell? ⟨wr.heap.size, 1, none⟩ = some (.int .u8 x.c) := fun p => (HX.out.to p.h).cell 1 rfl
      go_upto_region 4 with fail
      obtain ⟨ma, ha⟩ : ∃ mb, decide (U.May x.r) = mb := ⟨_, rfl⟩
      have HMa := Lib.hid (fun W : World => show Calls Tryz.prog 86 #[.int .i32 x.r] W fun e w' => e = .returned (.bool ma) ∧ Below W.heap.size W w' from (rmay_is x.r ma ha W).mono fun e w' h => ⟨h.1, h.2 ▸ Below.refl _ _⟩)
      have HP := Lib.hid (fun kp (h0 : kp < k) => show ∃ y, l[kp]? = some y ∧ ∀ p : Later X, p.v.cell? ⟨g, of + kp * 2, none⟩ = some (.int .i32 y.r) from by
        obtain ⟨y, hy⟩ : ∃ y, l[kp]? = some y := ⟨_, List.getElem?_eq_getElem (by rw [HN.out]; omega)⟩
        obtain ⟨g', of', e', hg', hcy⟩ := HC.out kp y hy
        simp only [Option.some.injEq, Addr.mk.injEq, and_true] at e'
        obtain ⟨rfl, rfl⟩ := e'
        refine ⟨y, hy, fun p => ?_⟩
        have h1 := (HBW.out.cell (p := ⟨g, of + kp * 2, none⟩) hg).trans (hcy 0 _ rfl)
        exact (p.h.cell (p := ⟨g, of + kp * 2, none⟩) (Nat.lt_of_lt_of_le hg HBW.out.size)).trans h1)
      clear c0 c1
      go_cut [40] from 12 to 40 (fun sb wc => ∃ t : Bool, sb = .bool t ∧ Hid (TB t (¬ (okE (lastE (fun x : Cl => (x.r, x.r)) l k) x.r x.r ∧ clB x = true))) ∧ Hid (Below X.heap.size X wc))
      case first =>
        clear hx
        cases ma with
        | false =>
          have HF := Lib.hid (TB.t (A := ¬ (okE (lastE (fun x : Cl => (x.r, x.r)) l k) x.r x.r ∧ clB x = true)) (fun h => of_decide_eq_false ha h.1.2.1))
          clear ha HST hX HP
          refine wp_region_quiet_later (by kernel_rfl) (by kernel_rfl) ?_
          repeat (go_big_quiet_step (fail))
          go_big_quiet_step ((go_at_call 86; exact Calls.later_of (HMa.out _)))
          repeat (go_big_quiet_step (fail))
          refine wpQuiet_nil ?_
          rintro _ ⟨p, rfl⟩
          go_wp2_with fail
          go_meet
          case rel => exact ⟨true, rfl, HF, Lib.hid p.h⟩
        | true =>
          by_cases k0 : 0 < k
          · have k1 : (0 : Int) < (k : Int) := by omega
            have k2 : decide ((0 : Int) < (k : Int)) = true := decide_eq_true k1
            have k3 : decide (0 < k) = true := decide_eq_true k0
            obtain ⟨kp, hkp⟩ : ∃ kp, k = kp + 1 := ⟨k - 1, by omega⟩
            have wk : IntKind.i64.wrap ((k : Int) - 1) = (kp : Int) := by rw [IntWalk.i64_in _ (by omega)]; omega
            have hkpn : kp < n := by omega
            obtain ⟨y, hy', hcy⟩ := HP.out kp (by omega)
            have hy : l[k - 1]? = some y := by rw [hkp, Nat.add_sub_cancel]; exact hy'
            have HK0 := Lib.hid k0
            clear hkp hy'
            by_cases c11 : x.r ≤ y.r
            · have d11 : decide (x.r ≤ y.r) = true := decide_eq_true c11
              have HF := Lib.hid (TB.t (A := ¬ (okE (lastE (fun x : Cl => (x.r, x.r)) l k) x.r x.r ∧ clB x = true)) (fun h => by have h9 := h.1.2.2.2.2 _ (lastE_some HK0.out hy); dsimp only at h9; omega))
              clear ha HST hX hy HP
              refine wp_region_quiet_later (by kernel_rfl) (by kernel_rfl) ?_
              repeat (go_big_quiet_step (fail))
              go_big_quiet_step ((go_at_call 86; exact Calls.later_of (HMa.out _)))
              repeat (go_big_quiet_step (fail))
              refine wpQuiet_nil ?_
              rintro _ ⟨p, rfl⟩
              go_wp2_with fail
              go_meet
              case rel => exact ⟨true, rfl, HF, Lib.hid p.h⟩
            · have d11 : decide (x.r ≤ y.r) = false := decide_eq_false c11
              have n11 : y.r < x.r := by omega
              by_cases c20 : x.c < 1
              · have d20 : decide (x.c < 1) = true := decide_eq_true c20
                have HF := Lib.hid (TB.t (A := ¬ (okE (lastE (fun x : Cl => (x.r, x.r)) l k) x.r x.r ∧ clB x = true)) (fun h => by have := clB_iff.1 h.2; omega))
                clear ha HST hX hy HP
                refine wp_region_quiet_later (by kernel_rfl) (by kernel_rfl) ?_
                repeat (go_big_quiet_step (fail))
                go_big_quiet_step ((go_at_call 86; exact Calls.later_of (HMa.out _)))
                repeat (go_big_quiet_step (fail))
                refine wpQuiet_nil ?_
                rintro _ ⟨p, rfl⟩
                go_wp2_with fail
                go_meet
                case rel => exact ⟨true, rfl, HF, Lib.hid p.h⟩
              · have d20 : decide (x.c < 1) = false := decide_eq_false c20
                have n20 : 1 ≤ x.c := by omega
                by_cases c30 : 254 < x.c
                · have d30 : decide (254 < x.c) = true := decide_eq_true c30
                  have HF := Lib.hid (TB.t (A := ¬ (okE (lastE (fun x : Cl => (x.r, x.r)) l k) x.r x.r ∧ clB x = true)) (fun h => by have := clB_iff.1 h.2; omega))
                  clear ha HST hX hy HP
                  refine wp_region_quiet_later (by kernel_rfl) (by kernel_rfl) ?_
                  repeat (go_big_quiet_step (fail))
                  go_big_quiet_step ((go_at_call 86; exact Calls.later_of (HMa.out _)))
                  repeat (go_big_quiet_step (fail))
                  refine wpQuiet_nil ?_
                  rintro _ ⟨p, rfl⟩
                  go_wp2_with fail
                  go_meet
                  case rel => exact ⟨true, rfl, HF, Lib.hid p.h⟩
                · have d30 : decide (254 < x.c) = false := decide_eq_false c30
                  have n30 : x.c ≤ 254 := by omega
                  have HF := Lib.hid (TB.f (A := ¬ (okE (lastE (fun x : Cl => (x.r, x.r)) l k) x.r x.r ∧ clB x = true)) (fun h => h ⟨⟨by omega, of_decide_eq_true ha, of_decide_eq_true ha, by omega, fun p hp => by rw [lastE_some HK0.out hy] at hp; cases hp; dsimp only; omega⟩, clB_iff.2 ⟨by omega, by omega⟩⟩))
                  clear ha HST hX hy HP
                  refine wp_region_quiet_later (by kernel_rfl) (by kernel_rfl) ?_
                  repeat (go_big_quiet_step (fail))
                  go_big_quiet_step ((go_at_call 86; exact Calls.later_of (HMa.out _)))
                  repeat (go_big_quiet_step (fail))
                  refine wpQuiet_nil ?_
                  rintro _ ⟨p, rfl⟩
                  go_wp2_with fail
                  go_meet
                  case rel => exact ⟨false, rfl, HF, Lib.hid p.h⟩
          · have hk0 : k = 0 := by omega
            have k1 : ¬ (0 : Int) < (k : Int) := by omega
            have k2 : decide ((0 : Int) < (k : Int)) = false := decide_eq_false k1
            have k3 : decide (0 < k) = false := decide_eq_false k0
            have HK0 := Lib.hid hk0
            clear hk0
            by_cases c20 : x.c < 1
            · have d20 : decide (x.c < 1) = true := decide_eq_true c20
              have HF := Lib.hid (TB.t (A := ¬ (okE (lastE (fun x : Cl => (x.r, x.r)) l k) x.r x.r ∧ clB x = true)) (fun h => by have := clB_iff.1 h.2; omega))
              clear ha HST hX HP
              refine wp_region_quiet_later (by kernel_rfl) (by kernel_rfl) ?_
              repeat (go_big_quiet_step (fail))
              go_big_quiet_step ((go_at_call 86; exact Calls.later_of (HMa.out _)))
              repeat (go_big_quiet_step (fail))
              refine wpQuiet_nil ?_
              rintro _ ⟨p, rfl⟩
              go_wp2_with fail
              go_meet
              case rel => exact ⟨true, rfl, HF, Lib.hid p.h⟩
            · have d20 : decide (x.c < 1) = false := decide_eq_false c20
              have n20 : 1 ≤ x.c := by omega
              by_cases c30 : 254 < x.c
              · have d30 : decide (254 < x.c) = true := decide_eq_true c30
                have HF := Lib.hid (TB.t (A := ¬ (okE (lastE (fun x : Cl => (x.r, x.r)) l k) x.r x.r ∧ clB x = true)) (fun h => by have := clB_iff.1 h.2; omega))
                clear ha HST hX HP
                refine wp_region_quiet_later (by kernel_rfl) (by kernel_rfl) ?_
                repeat (go_big_quiet_step (fail))
                go_big_quiet_step ((go_at_call 86; exact Calls.later_of (HMa.out _)))
                repeat (go_big_quiet_step (fail))
                refine wpQuiet_nil ?_
                rintro _ ⟨p, rfl⟩
                go_wp2_with fail
                go_meet
                case rel => exact ⟨true, rfl, HF, Lib.hid p.h⟩
              · have d30 : decide (254 < x.c) = false := decide_eq_false c30
                have n30 : x.c ≤ 254 := by omega
                have HF := Lib.hid (TB.f (A := ¬ (okE (lastE (fun x : Cl => (x.r, x.r)) l k) x.r x.r ∧ clB x = true)) (fun h => h ⟨⟨by omega, of_decide_eq_true ha, of_decide_eq_true ha, by omega, fun p hp => by rw [lastE_zero HK0.out] at hp; cases hp⟩, clB_iff.2 ⟨by omega, by omega⟩⟩))
                clear ha HST hX HP
                refine wp_region_quiet_later (by kernel_rfl) (by kernel_rfl) ?_
                repeat (go_big_quiet_step (fail))
                go_big_quiet_step ((go_at_call 86; exact Calls.later_of (HMa.out _)))
                repeat (go_big_quiet_step (fail))
                refine wpQuiet_nil ?_
                rintro _ ⟨p, rfl⟩
                go_wp2_with fail
                go_meet
                case rel => exact ⟨false, rfl, HF, Lib.hid p.h⟩
      case rest =>
        obtain ⟨t, rfl, HF, HBc⟩ := hcut
        have HBz := Lib.hid (HBW.out.trans (HBc.out.mono HBW.out.size))
        clear hx z0 z1 HP ha HX
        cases t with
        | true =>
          have HZ := Lib.hid (seg_no HST.out HF.out.yes)
          go_wp2_with fail
          go_ret
          exact ⟨by rw [HZ.out]; rfl, HBz.out⟩
        | false =>
          have HZ := Lib.hid (seg_yes HST.out HF.out.no)
          go_wp2_with fail
          go_roundw
          case rel => exact ⟨k + 1, by omega, by go_num, HZ, HBz⟩
          case measure => simp [intOf]; omega
    · have HZ := Lib.hid (HS.out.trans (segs_end (by rw [HN.out]; omega)))
      go_wp2_with fail
      go_ret
      exact ⟨by rw [HZ.out]; rfl, HB.out⟩
end Go.Proofs.YtbclodbneonipaaGreat
