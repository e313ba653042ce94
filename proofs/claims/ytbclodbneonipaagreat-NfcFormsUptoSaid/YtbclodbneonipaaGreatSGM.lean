import Derived.Test.YtbclodbneonipaaGreatSFM
namespace Go.Proofs.YtbclodbneonipaaGreat
open Go.RowKit N
set_option maxRecDepth 100000 in
set_option maxHeartbeats 8000000 in
theorem sym_last (g : Nat) (rest : List Value) (len cap : Nat) (pre : List Pl) (L : List Pl) (y : Pl) (post : List Pl) (w : World) (B : Nat) (hB : B ≤ g) (hR : Row w g rest (pre ++ ((L ++ [y]) ++ post))) (hlen : (pre ++ ((L ++ [y]) ++ post)).length = len) (hmax : len ≤ 35184372088320) (hS : SM.Srt ltP L) (hL1 : L.length ≠ 1) (a m b : Nat) (ha : pre.length = a) (hm : a + L.length = m) (hb : b = m + 1) :
    Calls Tryz.prog 88 #[.slice (some ⟨g, 0, none⟩) len cap, .int .i64 a, .int .i64 m, .int .i64 b, CMP] w fun e w' => e = .returned (.tuple #[]) ∧ Row w' g rest (pre ++ (SM.mrg ltP L [y] ++ post)) ∧ Below B w w' := by
  have hlen' : pre.length + L.length + 1 + post.length = len := by rw [← hlen]; simp; omega
  have b1 : b ≤ len := by omega
  have b2 : a ≤ m := by omega
  have mb : m + 1 ≤ b := by omega
  have bm : b ≤ m + 1 := by omega
  have HI0 : Hid (L.length = m - a ∧ pre.length = a ∧ pre.length + L.length + 1 + post.length = len) := Lib.hid ⟨by omega, ha, hlen'⟩
  have HR0 := Lib.hid hR
  have HS := Lib.hid hS
  have hm0 : Tryz.prog.follows .mixedOrders = true := by kernel_rfl
  have wz : IntKind.i64.wrap ((m : Int) - (a : Int)) = (m : Int) - (a : Int) := IntWalk.i64_in _ (by omega)
  have wz2 : ((m : Int) - (a : Int) == 1) = false := by simp; omega
  have wy : IntKind.i64.wrap ((b : Int) - (m : Int)) = 1 := by rw [show (b : Int) - (m : Int) = 1 by omega]; rfl
  have wy2 : (b : Int) - (m : Int) = 1 := by omega
  clear hlen hlen' hR ha hb hS hm hL1
  unfold CMP
  go_enter Tryz.func88, Tryz.ntmps88
  go_wp2
  go_loopw [14, 15] (fun iv jv wr => ∃ (i j : Nat), iv = .int .i64 i ∧ jv = .int .i64 j ∧ a ≤ i ∧ i ≤ j ∧ j ≤ m ∧ Hid ((∀ k z, L[k]? = some z → k + a < i → ltP y z = false) ∧ (∀ k z, L[k]? = some z → j ≤ k + a → ltP y z = true)) ∧ Row wr g rest (pre ++ ((L ++ [y]) ++ post)) ∧ Below B w wr) (fun i j _ => (intOf j).toNat - (intOf i).toNat)
  case atStart =>
    obtain ⟨h1, h2, h3⟩ := HI0.out
    refine ⟨a, m, rfl, rfl, Nat.le_refl _, b2, Nat.le_refl _, Lib.hid ⟨fun k z _ h => by omega, fun k z hk h => ?_⟩, HR0.out, Below.refl _ _⟩
    have := (List.getElem?_eq_some_iff.1 hk).1
    omega
  case round =>
    obtain ⟨i, j, rfl, rfl, hai, hij, hjb, HI, hRow, hBel⟩ := hrel
    by_cases hlt : i < j
    · have hltz : (i : Int) < (j : Int) := by omega
      obtain ⟨h, hh⟩ : ∃ h, h = (i + j) / 2 := ⟨_, rfl⟩
      have hi1 : i ≤ h := by omega
      have hi2 : h < j := by omega
      have wsum : IntKind.i64.wrap ((i : Int) + (j : Int)) = (i : Int) + (j : Int) := IntWalk.i64_in _ (by omega)
      have hz : ((i : Int) + (j : Int)) / 2 = (h : Int) := by omega
      obtain ⟨x, hx⟩ : ∃ x, L[h - a]? = some x := by
        have := HI0.out.1
        exact ⟨_, List.getElem?_eq_getElem (by omega)⟩
      have gx : (pre ++ ((L ++ [y]) ++ post))[h]? = some x := by
        have := get_part pre (L ++ [y]) post (i := h - a) (x := x) (by rw [List.getElem?_append_left (List.getElem?_eq_some_iff.1 hx).1]; exact hx)
        rw [HI0.out.2.1, show a + (h - a) = h by omega] at this; exact this
      have gy : (pre ++ ((L ++ [y]) ++ post))[m]? = some y := by
        have := get_part pre (L ++ [y]) post (i := L.length) (x := y) (by simp)
        have h1 := HI0.out.1
        rw [HI0.out.2.1, show a + L.length = m by omega] at this; exact this
      have hg0 := hRow.lt
      have x0 := hRow.c0 gx
      have x1 := hRow.c1 gx
      have x2 := hRow.c2 gx
      have y0 := hRow.c0 gy
      have y1 := hRow.c1 gy
      have y2 := hRow.c2 gy
      have q1 : (h : Int) < (len : Int) := by omega
      have q2 : (m : Int) < (len : Int) := by omega
      have HRow := Lib.hid hRow
      have HBel := Lib.hid hBel
      have HX := Lib.hid hx
      clear gx gy hRow hBel hx hh
      have k0 : ∀ p : Later wr, p.v.cell? ⟨g, h * 3, none⟩ = some (.int .i32 x.r) := fun p => p.c x0 hg0
      have k1 : ∀ p : Later wr, p.v.cell? ⟨g, h * 3 + 1, none⟩ = some (.int .i64 x.k) := fun p => p.c x1 hg0
      have k2 : ∀ p : Later wr, p.v.cell? ⟨g, h * 3 + 2, none⟩ = some (.int .u8 x.c) := fun p => p.c x2 hg0
      have l0 : ∀ p : Later wr, p.v.cell? ⟨g, m * 3, none⟩ = some (.int .i32 y.r) := fun p => p.c y0 hg0
      have l1 : ∀ p : Later wr, p.v.cell? ⟨g, m * 3 + 1, none⟩ = some (.int .i64 y.k) := fun p => p.c y1 hg0
      have l2 : ∀ p : Later wr, p.v.cell? ⟨g, m * 3 + 2, none⟩ = some (.int .u8 y.c) := fun p => p.c y2 hg0
      clear x0 x1 x2 y0 y1 y2
      by_cases hc : ltP y x = true
      · have hcz : decide (cmpP y x < 0) = true := by rw [cmpP_lt, hc]
        have HC := Lib.hid hc
        have hcz2 : cmpP y x < 0 := of_decide_eq_true hcz
        clear hc
        go_wp2_with fail
        refine wp_region_quiet_later (by assumption) (by kernel_rfl) ?_
        repeat (quiet_step ((go_at_call 28; exact Calls.later_of (cmp28 y x _))))
        refine wpQuiet_nil ?_
        rintro _ ⟨p, rfl⟩
        have HRp := Lib.hid (HRow.out.to p.h)
        have HBp := Lib.hid (HBel.out.trans (p.h.mono (Nat.le_trans hB (Nat.le_of_lt hg0))))
        clear k0 k1 k2 l0 l1 l2
        go_wp2
        go_roundw
        case rel =>
          refine ⟨i, h, rfl, rfl, hai, hi1, by omega, Lib.hid ⟨HI.out.1, fun k z hk hlt => ?_⟩, HRp.out, HBp.out⟩
          by_cases he : k = h - a
          · subst he
            rw [HX.out] at hk; cases hk; exact HC.out
          · have h1 := srt_get HS.out HX.out hk (by omega)
            cases e : ltP y z
            · have h2 := ltP_ord.trans _ _ _ h1 e
              rw [HC.out] at h2; cases h2
            · rfl
        case measure => simp [intOf]; omega
      · have hc' : ltP y x = false := by simpa using hc
        have hcz : decide (cmpP y x < 0) = false := by rw [cmpP_lt, hc']
        have HC := Lib.hid hc'
        have hcz2 : ¬ cmpP y x < 0 := of_decide_eq_false hcz
        clear hc hc'
        go_wp2_with fail
        refine wp_region_quiet_later (by assumption) (by kernel_rfl) ?_
        repeat (quiet_step ((go_at_call 28; exact Calls.later_of (cmp28 y x _))))
        refine wpQuiet_nil ?_
        rintro _ ⟨p, rfl⟩
        have HRp := Lib.hid (HRow.out.to p.h)
        have HBp := Lib.hid (HBel.out.trans (p.h.mono (Nat.le_trans hB (Nat.le_of_lt hg0))))
        clear k0 k1 k2 l0 l1 l2
        go_wp2
        go_roundw
        case rel =>
          refine ⟨h + 1, j, by go_num, rfl, by omega, by omega, hjb, Lib.hid ⟨fun k z hk hlt => ?_, HI.out.2⟩, HRp.out, HBp.out⟩
          by_cases he : k = h - a
          · subst he
            rw [HX.out] at hk; cases hk; exact HC.out
          · exact ltP_ord.trans _ _ _ (srt_get HS.out hk HX.out (by omega)) HC.out
        case measure => simp [intOf]; omega
    · have hltz : ¬ (i : Int) < (j : Int) := by omega
      obtain rfl : i = j := by omega
      obtain ⟨L1, L2, HL12⟩ : ∃ L1 L2, Hid (L = L1 ++ L2 ∧ L1.length + a = i ∧ SM.mrg ltP L [y] = L1 ++ y :: L2) := by
        have hl := HI0.out.1
        refine ⟨L.take (i - a), L.drop (i - a), Lib.hid ⟨by simp, by rw [List.length_take]; omega, ?_⟩⟩
        conv => lhs; rw [← List.take_append_drop (i - a) L]
        refine SM.mrg_one (fun z hy => ?_) (fun z hy => ?_)
        · obtain ⟨k, hk⟩ := List.getElem?_of_mem hy
          have hkl := (List.getElem?_eq_some_iff.1 hk).1
          rw [List.length_take] at hkl
          rw [List.getElem?_take_of_lt (by omega)] at hk
          exact HI.out.1 k z hk (by omega)
        · obtain ⟨k, hk⟩ := List.getElem?_of_mem hy
          rw [List.getElem?_drop] at hk
          exact HI.out.2 _ z hk (by omega)
      have HRow := Lib.hid hRow
      have HBel := Lib.hid hBel
      clear hRow hBel hlt HI
      go_wp2
      obtain ⟨wo, rfl⟩ : ∃ wo : World, wo = wr := ⟨_, rfl⟩
      go_loopw [17] (fun kv wr => ∃ (k : Nat) (La Lb : List Pl), kv = .int .i64 k ∧ i ≤ k ∧ k ≤ m ∧ Hid (L2 = La ++ Lb ∧ La.length + i = k) ∧ Row wr g rest ((pre ++ (L1 ++ La)) ++ y :: (Lb ++ post)) ∧ Below B w wr) (fun k _ => (intOf k).toNat - i)
      case atStart =>
        refine ⟨m, L2, [], rfl, by omega, Nat.le_refl _, Lib.hid ⟨by simp, ?_⟩, ?_, HBel.out⟩
        · obtain ⟨h1, h2, _⟩ := HL12.out
          have h3 := HI0.out.1
          rw [h1, List.length_append] at h3; omega
        · have := HRow.out
          rw [HL12.out.1] at this
          simpa using this
      case round =>
        obtain ⟨k, La, Lb, rfl, hak, hki, HK, hRow, hBel⟩ := hrel
        by_cases hlt : i < k
        · obtain ⟨La, x, rfl⟩ : ∃ A' z, La = A' ++ [z] := by
            have hne : La ≠ [] := by intro e; have := HK.out.2; rw [e] at this; simp at this; omega
            exact ⟨La.dropLast, La.getLast hne, (List.dropLast_concat_getLast hne).symm⟩
          obtain ⟨kp, rfl⟩ : ∃ kp, k = kp + 1 := ⟨k - 1, by omega⟩
          have hltz2 : (i : Int) < (kp : Int) + 1 := by omega
          have hPl : (pre ++ (L1 ++ La)).length = kp := by have h1 := HK.out.2; have h2 := HI0.out.2.1; have h3 := HL12.out.2.1; simp only [List.length_append, List.length_singleton] at h1 ⊢; omega
          have hrw : (pre ++ (L1 ++ (La ++ [x]))) ++ y :: (Lb ++ post) = (pre ++ (L1 ++ La)) ++ x :: ([] ++ y :: (Lb ++ post)) := by simp
          rw [hrw] at hRow
          have gx := get_mid (pre ++ (L1 ++ La)) ([] ++ y :: (Lb ++ post)) x
          have gy := get_two (pre ++ (L1 ++ La)) [] (Lb ++ post) x y
          rw [hPl] at gx
          simp only [List.length_nil, Nat.add_zero] at gy
          rw [hPl] at gy
          have y0 := hRow.c0 gx
          have y1 := hRow.c1 gx
          have y2 := hRow.c2 gx
          have x0 := hRow.c0 gy
          have x1 := hRow.c1 gy
          have x2 := hRow.c2 gy
          have fx0 := hRow.f ((kp + 1) * 3)
          have fx1 := hRow.f ((kp + 1) * 3 + 1)
          have fx2 := hRow.f ((kp + 1) * 3 + 2)
          have fy0 := hRow.f (kp * 3)
          have fy1 := hRow.f (kp * 3 + 1)
          have fy2 := hRow.f (kp * 3 + 2)
          have HRow2 := Lib.hid hRow
          have HBel2 := Lib.hid hBel
          have HPl := Lib.hid hPl
          have wk0 : IntKind.i64.wrap (kp : Int) = (kp : Int) := IntWalk.i64_in _ (by omega)
          have wk : IntKind.i64.wrap ((kp : Int) + 1 - 1) = (kp : Int) := by rw [show (kp : Int) + 1 - 1 = (kp : Int) by omega]; exact wk0
          have q1 : (kp : Int) + 1 < (len : Int) := by omega
          have q2 : (kp : Int) < (len : Int) := by omega
          have q3 : (0 : Int) ≤ (kp : Int) + 1 := by omega
          have q4 : ((kp : Int) + 1).toNat = kp + 1 := by omega
          clear gx gy hRow hBel hPl hrw
          have z0 : ((((wr.setCell ⟨g, (kp + 1) * 3, none⟩ (.int .i32 x.r)).setCell ⟨g, (kp + 1) * 3 + 1, none⟩ (.int .i64 x.k)).setCell ⟨g, (kp + 1) * 3 + 2, none⟩ (.int .u8 x.c)).drew).cell? ⟨g, kp * 3, none⟩ = some (.int .i32 x.r) := (cell_drew _ _).trans <| far3 y0 (by omega) (by omega) (by omega)
          have z1 : (((((wr.setCell ⟨g, (kp + 1) * 3, none⟩ (.int .i32 x.r)).setCell ⟨g, (kp + 1) * 3 + 1, none⟩ (.int .i64 x.k)).setCell ⟨g, (kp + 1) * 3 + 2, none⟩ (.int .u8 x.c)).setCell ⟨g, kp * 3, none⟩ (.int .i32 y.r)).drew).cell? ⟨g, kp * 3 + 1, none⟩ = some (.int .i64 x.k) := (cell_drew _ _).trans <| far1 (far3 y1 (by omega) (by omega) (by omega)) (by omega)
          have z2 : ((((((wr.setCell ⟨g, (kp + 1) * 3, none⟩ (.int .i32 x.r)).setCell ⟨g, (kp + 1) * 3 + 1, none⟩ (.int .i64 x.k)).setCell ⟨g, (kp + 1) * 3 + 2, none⟩ (.int .u8 x.c)).setCell ⟨g, kp * 3, none⟩ (.int .i32 y.r)).setCell ⟨g, kp * 3 + 1, none⟩ (.int .i64 y.k)).drew).cell? ⟨g, kp * 3 + 2, none⟩ = some (.int .u8 x.c) := (cell_drew _ _).trans <| far1 (far1 (far3 y2 (by omega) (by omega) (by omega)) (by omega)) (by omega)
          go_wp2_with fail
          go_region
          all_goals go_wp2
          go_roundw
          case rel =>
            have hsw := (HRow2.out.swap (i := kp + 1) (j := kp) (by have := HPl.out; simp only [List.length_append, List.length_cons, List.length_nil] at this ⊢; omega) (by have := HPl.out; simp only [List.length_append, List.length_cons, List.length_nil] at this ⊢; omega) y x).drew
            have e2 : ((((pre ++ (L1 ++ La)) ++ x :: ([] ++ y :: (Lb ++ post))).set (kp + 1) x).set kp y) = (pre ++ (L1 ++ La)) ++ y :: ((x :: Lb) ++ post) := by
              have e3 := two_set (pre ++ (L1 ++ La)) [] (Lb ++ post) x y
              rw [HPl.out, List.length_nil, Nat.add_zero] at e3
              rw [List.set_comm _ _ (by omega), e3]; rfl
            rw [e2] at hsw
            obtain ⟨h1, h2⟩ := HK.out
            exact ⟨kp, La, x :: Lb, by go_num, by omega, by omega, Lib.hid ⟨by rw [h1]; simp, by simp only [List.length_append, List.length_singleton] at h2; omega⟩, hsw, (bel_set6 HBel2.out hB _ _ _ _ _ _ _ _ _ _ _ _).drew⟩
          case measure => simp [intOf]; omega
        · have hltz2 : ¬ (i : Int) < (k : Int) := by omega
          have HF : Hid (Row wr g rest (pre ++ (SM.mrg ltP L [y] ++ post))) := Lib.hid (by
            obtain ⟨h1, h2⟩ := HK.out
            obtain ⟨h3, h4, h5⟩ := HL12.out
            have := List.eq_nil_of_length_eq_zero (show La.length = 0 by omega)
            subst this
            rw [h5]
            rw [List.nil_append] at h1
            subst h1
            simpa using hRow)
          have HBel2 := Lib.hid hBel
          clear hRow hBel
          go_wp2
          exact bodyPost_ret (v := .tuple #[]) (by simp [results, Tryz.results88, go_sem]) rfl ⟨rfl, HF.out, HBel2.out⟩
end Go.Proofs.YtbclodbneonipaaGreat
namespace Go.Proofs.YtbclodbneonipaaGreat
open Go.RowKit N
/-- what is known when the search has ended: the four parts -/
theorem four_parts {L R : List Pl} (hL : SM.Srt ltP L) (hR : SM.Srt ltP R) {s t : Nat} (hs : s ≤ L.length) (ht : t ≤ R.length)
    (h1 : 0 < s → t < R.length → ∀ x y, L[s - 1]? = some x → R[t]? = some y → ltP y x = false)
    (h2 : s < L.length → 0 < t → ∀ x y, L[s]? = some x → R[t - 1]? = some y → ltP y x = true) :
    SM.mrg ltP L R = SM.mrg ltP (L.take s) (R.take t) ++ SM.mrg ltP (L.drop s) (R.drop t) := by
  conv => lhs; rw [← List.take_append_drop s L, ← List.take_append_drop t R]
  refine SM.cut (fun x hx y hy => ?_) (fun y hy x hx => ?_)
  · obtain ⟨i, hi⟩ := List.getElem?_of_mem hx
    obtain ⟨j, hj⟩ := List.getElem?_of_mem hy
    have hil := (List.getElem?_eq_some_iff.1 hi).1
    rw [List.length_take] at hil
    rw [List.getElem?_take_of_lt (by omega)] at hi
    rw [List.getElem?_drop] at hj
    have hjl := (List.getElem?_eq_some_iff.1 hj).1
    have e1 : L[s - 1]? = some (L[s - 1]'(by omega)) := List.getElem?_eq_getElem (by omega)
    have e2 : R[t]? = some (R[t]'(by omega)) := List.getElem?_eq_getElem (by omega)
    have h0 := h1 (by omega) (by omega) _ _ e1 e2
    have k1 : ltP (L[s - 1]'(by omega)) x = false := by
      by_cases he : i = s - 1
      · subst he; rw [e1] at hi; cases hi
        rcases ltP_ord.total (L[s - 1]'(by omega)) (L[s - 1]'(by omega)) with h | h <;> exact h
      · exact srt_get hL hi e1 (by omega)
    have k2 : ltP y (R[t]'(by omega)) = false := by
      by_cases he : j = 0
      · subst he; rw [Nat.add_zero, e2] at hj; cases hj
        rcases ltP_ord.total (R[t]'(by omega)) (R[t]'(by omega)) with h | h <;> exact h
      · exact srt_get hR e2 hj (by omega)
    exact ltP_ord.trans _ _ _ (ltP_ord.trans _ _ _ k1 h0) k2
  · obtain ⟨i, hi⟩ := List.getElem?_of_mem hx
    obtain ⟨j, hj⟩ := List.getElem?_of_mem hy
    have hjl := (List.getElem?_eq_some_iff.1 hj).1
    rw [List.length_take] at hjl
    rw [List.getElem?_take_of_lt (by omega)] at hj
    rw [List.getElem?_drop] at hi
    have hil := (List.getElem?_eq_some_iff.1 hi).1
    have e1 : L[s]? = some (L[s]'(by omega)) := List.getElem?_eq_getElem (by omega)
    have e2 : R[t - 1]? = some (R[t - 1]'(by omega)) := List.getElem?_eq_getElem (by omega)
    have h0 := h2 (by omega) (by omega) _ _ e1 e2
    have k1 : ltP x (L[s]'(by omega)) = false := by
      by_cases he : i = 0
      · subst he; rw [Nat.add_zero, e1] at hi; cases hi
        rcases ltP_ord.total (L[s]'(by omega)) (L[s]'(by omega)) with h | h <;> exact h
      · exact srt_get hL e1 hi (by omega)
    have k2 : ltP (R[t - 1]'(by omega)) y = false := by
      by_cases he : j = t - 1
      · subst he; rw [e2] at hj; cases hj
        rcases ltP_ord.total (R[t - 1]'(by omega)) (R[t - 1]'(by omega)) with h | h <;> exact h
      · exact srt_get hR hj e2 (by omega)
    cases e : ltP y x
    · -- x <= y <= R[t-1]; L[s] <= x
      have := ltP_ord.trans _ _ _ k1 (ltP_ord.trans _ _ _ e k2)
      rw [h0] at this; cases this
    · rfl
theorem srt_take {l : List Pl} (h : SM.Srt ltP l) (k : Nat) : SM.Srt ltP (l.take k) := List.Pairwise.sublist (List.take_sublist _ _) h
theorem srt_drop {l : List Pl} (h : SM.Srt ltP l) (k : Nat) : SM.Srt ltP (l.drop k) := List.Pairwise.sublist (List.drop_sublist _ _) h
/-- the contract of symMerge for parts of together at most N elements -/
def SymUpTo (N : Nat) : Prop := ∀ (g : Nat) (rest : List Value) (len cap : Nat) (pre L R post : List Pl) (w : World) (B : Nat), L.length + R.length ≤ N → B ≤ g → Row w g rest (pre ++ ((L ++ R) ++ post)) → (pre ++ ((L ++ R) ++ post)).length = len → len ≤ 35184372088320 → SM.Srt ltP L → SM.Srt ltP R → 0 < L.length → 0 < R.length → ∀ (a m b : Int), a = (pre.length : Nat) → m = (pre.length + L.length : Nat) → b = (pre.length + L.length + R.length : Nat) →
    Calls Tryz.prog 88 #[.slice (some ⟨g, 0, none⟩) len cap, .int .i64 a, .int .i64 m, .int .i64 b, CMP] w fun e w' => e = .returned (.tuple #[]) ∧ Row w' g rest (pre ++ (SM.mrg ltP L R ++ post)) ∧ Below B w w'
end Go.Proofs.YtbclodbneonipaaGreat
