import Derived.Test.YtbclodbneonipaaGreatSGM
namespace Go.Proofs.YtbclodbneonipaaGreat
open Go.RowKit N
set_option maxRecDepth 100000 in
set_option maxHeartbeats 16000000 in
theorem sym_big (N : Nat) (ih : SymUpTo N) (g : Nat) (rest : List Value) (len cap : Nat) (pre L R post : List Pl) (w : World) (B : Nat) (hN : L.length + R.length ≤ N + 1) (hB : B ≤ g) (hR : Row w g rest (pre ++ ((L ++ R) ++ post))) (hlen : (pre ++ ((L ++ R) ++ post)).length = len) (hmax : len ≤ 35184372088320) (hSL : SM.Srt ltP L) (hSR : SM.Srt ltP R) (hL : 2 ≤ L.length) (hRl : 2 ≤ R.length) (a m b mid n lo : Nat) (ha : pre.length = a) (hm : a + L.length = m) (hb : m + R.length = b) (hmid : mid = (a + b) / 2) (hn : n = mid + m) (hlo : lo = n - b) (hcase : mid < m) :
    Calls Tryz.prog 88 #[.slice (some ⟨g, 0, none⟩) len cap, .int .i64 a, .int .i64 m, .int .i64 b, CMP] w fun e w' => e = .returned (.tuple #[]) ∧ Row w' g rest (pre ++ (SM.mrg ltP L R ++ post)) ∧ Below B w w' := by
  have hlen' : pre.length + L.length + R.length + post.length = len := by rw [← hlen]; simp; omega
  have b1 : b ≤ len := by omega
  have b2 : a + 2 ≤ m := by omega
  have b3 : m + 2 ≤ b := by omega
  have f0 : a ≤ lo ∧ lo ≤ mid ∧ mid ≤ m ∧ mid ≤ mid ∧ n ≤ lo + b ∧ m + mid ≤ n ∧ a ≤ mid ∧ mid ≤ b ∧ n ≤ mid + m ∧ mid + m ≤ n := by omega
  obtain ⟨f1, f2, f3, f4, f5, f6, f7, f8, f9, f10⟩ := f0
  have HI0 : Hid (L.length = m - a ∧ R.length = b - m ∧ pre.length = a ∧ pre.length + L.length + R.length + post.length = len ∧ lo = n - b ∧ L.length + R.length ≤ N + 1 ∧ (pre ++ ((L ++ R) ++ post)).length = len) := Lib.hid ⟨by omega, by omega, ha, hlen', hlo, hN, hlen⟩
  have HR0 := Lib.hid hR
  have HSL := Lib.hid hSL
  have HSR := Lib.hid hSR
  have IH := Lib.hid ih
  have hm0 : Tryz.prog.follows .mixedOrders = true := by kernel_rfl
  have wz : IntKind.i64.wrap ((m : Int) - (a : Int)) = (m : Int) - (a : Int) := IntWalk.i64_in _ (by omega)
  have wz2 : ((m : Int) - (a : Int) == 1) = false := by simp; omega
  have wy : IntKind.i64.wrap ((b : Int) - (m : Int)) = (b : Int) - (m : Int) := IntWalk.i64_in _ (by omega)
  have wy2 : ((b : Int) - (m : Int) == 1) = false := by simp; omega
  have wab : IntKind.i64.wrap ((a : Int) + (b : Int)) = (a : Int) + (b : Int) := IntWalk.i64_in _ (by omega)
  have hz : ((a : Int) + (b : Int)) / 2 = (mid : Int) := by omega
  have hzn : (mid : Int) + (m : Int) = (n : Int) := by omega
  have hc0 : (mid : Int) < (m : Int) := by omega
  have hnb : (n : Int) - (b : Int) = (lo : Int) := by omega
  clear hlen hlen' hR ha hb hSL hSR hm hL hRl hmid hn hcase hN ih hlo
  unfold CMP
  go_enter Tryz.func88, Tryz.ntmps88
  go_wp2
  go_loopw [20, 21] (fun iv jv wr => ∃ (i j : Nat), iv = .int .i64 i ∧ jv = .int .i64 j ∧ lo ≤ i ∧ i ≤ j ∧ j ≤ mid ∧ Hid ((lo < i → ∀ x y, L[i - 1 - a]? = some x → R[n - i - m]? = some y → ltP y x = false) ∧ (j < mid → ∀ x y, L[j - a]? = some x → R[n - 1 - j - m]? = some y → ltP y x = true)) ∧ Row wr g rest (pre ++ ((L ++ R) ++ post)) ∧ Below B w wr) (fun i j _ => (intOf j).toNat - (intOf i).toNat)
  case atStart => exact ⟨lo, mid, rfl, rfl, Nat.le_refl _, f2, Nat.le_refl _, Lib.hid ⟨fun h => by omega, fun h => by omega⟩, HR0.out, Below.refl _ _⟩
  case round =>
    obtain ⟨i, j, rfl, rfl, hai, hij, hjb, HI, hRow, hBel⟩ := hrel
    by_cases hlt : i < j
    · have hltz : (i : Int) < (j : Int) := by omega
      obtain ⟨h, hh⟩ : ∃ h, h = (i + j) / 2 := ⟨_, rfl⟩
      obtain ⟨d, hd⟩ : ∃ d, d = n - 1 - h := ⟨_, rfl⟩
      have hi1 : i ≤ h := by omega
      have hi2 : h < j := by omega
      have hd1 : m ≤ d ∧ d < b := by omega
      have wsum : IntKind.i64.wrap ((i : Int) + (j : Int)) = (i : Int) + (j : Int) := IntWalk.i64_in _ (by omega)
      have hzh : ((i : Int) + (j : Int)) / 2 = (h : Int) := by omega
      have hzd : (n : Int) - 1 - (h : Int) = (d : Int) := by omega
      have wzd : IntKind.i64.wrap ((n : Int) - 1 - (h : Int)) = (d : Int) := by rw [hzd]; exact IntWalk.i64_in _ (by omega)
      have wzd2 : IntKind.i64.wrap (d : Int) = (d : Int) := IntWalk.i64_in _ (by omega)
      obtain ⟨x, hx⟩ : ∃ x, L[h - a]? = some x := by
        have := HI0.out.1
        exact ⟨_, List.getElem?_eq_getElem (by omega)⟩
      obtain ⟨y, hy⟩ : ∃ y, R[d - m]? = some y := by
        have := HI0.out.2.1
        exact ⟨_, List.getElem?_eq_getElem (by omega)⟩
      have gx : (pre ++ ((L ++ R) ++ post))[h]? = some x := by
        have := get_part pre (L ++ R) post (i := h - a) (x := x) (by rw [List.getElem?_append_left (List.getElem?_eq_some_iff.1 hx).1]; exact hx)
        rw [HI0.out.2.2.1, show a + (h - a) = h by omega] at this; exact this
      have gy : (pre ++ ((L ++ R) ++ post))[d]? = some y := by
        have hl := HI0.out.1
        have := get_part pre (L ++ R) post (i := L.length + (d - m)) (x := y) (by rw [List.getElem?_append_right (by omega), Nat.add_sub_cancel_left]; exact hy)
        rw [HI0.out.2.2.1, show a + (L.length + (d - m)) = d by omega] at this; exact this
      have hg0 := hRow.lt
      have x0 := hRow.c0 gx
      have x1 := hRow.c1 gx
      have x2 := hRow.c2 gx
      have y0 := hRow.c0 gy
      have y1 := hRow.c1 gy
      have y2 := hRow.c2 gy
      have q1 : (h : Int) < (len : Int) := by omega
      have q2 : (d : Int) < (len : Int) := by omega
      have HRow := Lib.hid hRow
      have HBel := Lib.hid hBel
      have HX := Lib.hid hx
      have HY := Lib.hid hy
      have HD := Lib.hid (And.intro hh hd)
      clear gx gy hRow hBel hx hy hh hd
      have k0 : ∀ p : Later wr, p.v.cell? ⟨g, h * 3, none⟩ = some (.int .i32 x.r) := fun p => p.c x0 hg0
      have k1 : ∀ p : Later wr, p.v.cell? ⟨g, h * 3 + 1, none⟩ = some (.int .i64 x.k) := fun p => p.c x1 hg0
      have k2 : ∀ p : Later wr, p.v.cell? ⟨g, h * 3 + 2, none⟩ = some (.int .u8 x.c) := fun p => p.c x2 hg0
      have l0 : ∀ p : Later wr, p.v.cell? ⟨g, d * 3, none⟩ = some (.int .i32 y.r) := fun p => p.c y0 hg0
      have l1 : ∀ p : Later wr, p.v.cell? ⟨g, d * 3 + 1, none⟩ = some (.int .i64 y.k) := fun p => p.c y1 hg0
      have l2 : ∀ p : Later wr, p.v.cell? ⟨g, d * 3 + 2, none⟩ = some (.int .u8 y.c) := fun p => p.c y2 hg0
      clear x0 x1 x2 y0 y1 y2
      by_cases hc : ltP y x = true
      · have hcz : decide (cmpP y x < 0) = true := by rw [cmpP_lt, hc]
        have HC := Lib.hid hc
        have hcz2 : cmpP y x < 0 := of_decide_eq_true hcz
        clear hc
        go_wp2_with fail
        refine wp_region_quiet_later (by assumption) (by kernel_rfl) ?_
        repeat (quiet_step ((go_at_call 28; exact Calls.later_of (cmp28 y x _))))
        refine wpQuiet_nil ?_
        rintro _ ⟨p, rfl⟩
        have HRp := Lib.hid (HRow.out.to p.h)
        have HBp := Lib.hid (HBel.out.trans (p.h.mono (Nat.le_trans hB (Nat.le_of_lt hg0))))
        clear k0 k1 k2 l0 l1 l2
        go_wp2
        go_roundw
        case rel =>
          refine ⟨i, h, rfl, rfl, hai, hi1, by omega, Lib.hid ⟨HI.out.1, fun _ x' y' hx' hy' => ?_⟩, HRp.out, HBp.out⟩
          rw [HX.out] at hx'; cases hx'
          rw [← HD.out.2, HY.out] at hy'; cases hy'
          exact HC.out
        case measure => simp [intOf]; omega
      · have hc' : ltP y x = false := by simpa using hc
        have hcz : decide (cmpP y x < 0) = false := by rw [cmpP_lt, hc']
        have HC := Lib.hid hc'
        have hcz2 : ¬ cmpP y x < 0 := of_decide_eq_false hcz
        clear hc hc'
        go_wp2_with fail
        refine wp_region_quiet_later (by assumption) (by kernel_rfl) ?_
        repeat (quiet_step ((go_at_call 28; exact Calls.later_of (cmp28 y x _))))
        refine wpQuiet_nil ?_
        rintro _ ⟨p, rfl⟩
        have HRp := Lib.hid (HRow.out.to p.h)
        have HBp := Lib.hid (HBel.out.trans (p.h.mono (Nat.le_trans hB (Nat.le_of_lt hg0))))
        clear k0 k1 k2 l0 l1 l2
        go_wp2
        go_roundw
        case rel =>
          refine ⟨h + 1, j, by go_num, rfl, by omega, by omega, hjb, Lib.hid ⟨fun _ x' y' hx' hy' => ?_, HI.out.2⟩, HRp.out, HBp.out⟩
          rw [show h + 1 - 1 - a = h - a by omega, HX.out] at hx'; cases hx'
          rw [show n - (h + 1) - m = d - m by have := HD.out.2; omega, HY.out] at hy'; cases hy'
          exact HC.out
        case measure => simp [intOf]; omega
    · have hltz : ¬ (i : Int) < (j : Int) := by omega
      obtain rfl : i = j := by omega
      obtain ⟨e, he⟩ : ∃ e, e = n - i := ⟨_, rfl⟩
      have e1 : m ≤ e ∧ e ≤ b ∧ mid ≤ e := by omega
      have hze : (n : Int) - (i : Int) = (e : Int) := by omega
      obtain ⟨L1, L2, R1, R2, HP⟩ : ∃ L1 L2 R1 R2, Hid (L = L1 ++ L2 ∧ R = R1 ++ R2 ∧ L1.length = i - a ∧ R1.length = e - m ∧ SM.mrg ltP L R = SM.mrg ltP L1 R1 ++ SM.mrg ltP L2 R2 ∧ SM.Srt ltP L1 ∧ SM.Srt ltP L2 ∧ SM.Srt ltP R1 ∧ SM.Srt ltP R2 ∧ e = n - i) := by
        obtain ⟨h1, h2, h3, h4, h5, _⟩ := HI0.out
        refine ⟨L.take (i - a), L.drop (i - a), R.take (e - m), R.drop (e - m), Lib.hid ⟨by simp, by simp, by rw [List.length_take]; omega, by rw [List.length_take]; omega, ?_, srt_take HSL.out _, srt_drop HSL.out _, srt_take HSR.out _, srt_drop HSR.out _, he⟩⟩
        refine four_parts HSL.out HSR.out (by omega) (by omega) (fun k1 k2 x y hx hy => ?_) (fun k1 k2 x y hx hy => ?_)
        · exact HI.out.1 (by omega) x y (by rw [show i - 1 - a = i - a - 1 by omega]; exact hx) (by rw [show n - i - m = e - m by omega]; exact hy)
        · exact HI.out.2 (by omega) x y hx (by rw [show n - 1 - i - m = e - m - 1 by omega]; exact hy)
      have HRow := Lib.hid hRow
      have HBel := Lib.hid hBel
      clear hRow hBel hlt HI he
      by_cases hr : i < m ∧ m < e
      · obtain ⟨hra, hrb⟩ := hr
        have j5 : decide ((i : Int) < (m : Int)) = true := decide_eq_true (by omega)
        have j6 : decide ((m : Int) < (e : Int)) = true := decide_eq_true (by omega)
        go_wp2_with fail
        obtain ⟨h1, h2, h3, h4, h5, h6, h7, h8, h9, h10⟩ := HP.out
        obtain ⟨i1, i2, i3, i4, i5, i6, i7⟩ := HI0.out
        have hL2 : L1.length + L2.length = L.length := by rw [h1, List.length_append]
        have hR2 : R1.length + R2.length = R.length := by rw [h2, List.length_append]
        have hrow0 := HRow.out
        rw [h1, h2] at hrow0
        refine (rotateZ _ g rest len cap (pre ++ L1) L2 R1 (R2 ++ post) _ B hB (by simpa using hrow0) (by simp only [List.length_append] at i7 ⊢; omega) hmax (by omega) (by omega) _ _ _ (by simp only [List.length_append]; omega) (by simp only [List.length_append]; omega) (by simp only [List.length_append]; omega)).mono ?_
        rintro er w1 ⟨rfl, hR1w, hB1w⟩
        have HRow1 : Hid (Row w1 g rest (pre ++ (L1 ++ (R1 ++ (L2 ++ (R2 ++ post)))))) := Lib.hid (by simpa using hR1w)
        have HBel1 := Lib.hid (HBel.out.trans hB1w)
        clear h1 h2 h3 h4 h5 h6 h7 h8 h9 h10 i1 i2 i3 i4 i5 i6 i7 hL2 hR2 hR1w hB1w hrow0
        by_cases hc1 : a < i ∧ i < mid
        · obtain ⟨hc1a, hc1b⟩ := hc1
          have j3 : decide ((a : Int) < (i : Int)) = true := decide_eq_true (by omega)
          have j4 : decide ((i : Int) < (mid : Int)) = true := decide_eq_true (by omega)
          go_wp2_with fail
          all_goals
            obtain ⟨h1, h2, h3, h4, h5, h6, h7, h8, h9, h10⟩ := HP.out
            obtain ⟨i1, i2, i3, i4, i5, i6, i7⟩ := HI0.out
            have hL2 : L1.length + L2.length = L.length := by rw [h1, List.length_append]
            have hR2 : R1.length + R2.length = R.length := by rw [h2, List.length_append]
            refine (IH.out g rest len cap pre L1 R1 (L2 ++ (R2 ++ post)) _ B (by omega) hB (by simpa using HRow1.out) (by simp only [List.length_append] at i7 ⊢; omega) hmax h6 h8 (by omega) (by omega) _ _ _ (by omega) (by omega) (by omega)).mono ?_
            rintro er w2 ⟨rfl, hR2w, hB2w⟩
            have HRow2 : Hid (Row w2 g rest (pre ++ (SM.mrg ltP L1 R1 ++ (L2 ++ (R2 ++ post))))) := Lib.hid hR2w
            have HBel2 := Lib.hid (HBel1.out.trans hB2w)
            clear h1 h2 h3 h4 h5 h6 h7 h8 h9 h10 i1 i2 i3 i4 i5 i6 i7 hL2 hR2 hR2w hB2w
            by_cases hc2 : mid < e ∧ e < b
            · obtain ⟨hc2a, hc2b⟩ := hc2
              have j1 : decide ((mid : Int) < (e : Int)) = true := decide_eq_true (by omega)
              have j2 : decide ((e : Int) < (b : Int)) = true := decide_eq_true (by omega)
              go_wp2_with fail
              all_goals
                obtain ⟨h1, h2, h3, h4, h5, h6, h7, h8, h9, h10⟩ := HP.out
                obtain ⟨i1, i2, i3, i4, i5, i6, i7⟩ := HI0.out
                have hL2 : L1.length + L2.length = L.length := by rw [h1, List.length_append]
                have hR2 : R1.length + R2.length = R.length := by rw [h2, List.length_append]
                refine (IH.out g rest len cap (pre ++ SM.mrg ltP L1 R1) L2 R2 post _ B (by omega) hB (by simpa using HRow2.out) (by simp only [List.length_append, SM.mrg_length] at i7 ⊢; omega) hmax h7 h9 (by omega) (by omega) _ _ _ (by simp only [List.length_append, SM.mrg_length]; omega) (by simp only [List.length_append, SM.mrg_length]; omega) (by simp only [List.length_append, SM.mrg_length]; omega)).mono ?_
                rintro er w3 ⟨rfl, hR3, hB3⟩
                have HF : Hid (Row w3 g rest (pre ++ (SM.mrg ltP L R ++ post))) := Lib.hid (by rw [h5]; simpa using hR3)
                have HFB := Lib.hid (HBel2.out.trans hB3)
                clear h1 h2 h3 h4 h5 h6 h7 h8 h9 h10 i1 i2 i3 i4 i5 i6 i7 hL2 hR2 hR3 hB3
                go_wp2
                all_goals (go_end0; exact ⟨rfl, HF.out, HFB.out⟩)
            · by_cases hc2a : mid < e
              · have j1 : decide ((mid : Int) < (e : Int)) = true := decide_eq_true (by omega)
                have j2 : decide ((e : Int) < (b : Int)) = false := decide_eq_false (by omega)
                have HF : Hid (Row _ g rest (pre ++ (SM.mrg ltP L R ++ post))) := Lib.hid (by
                  obtain ⟨h1, h2, h3, h4, h5, h6, h7, h8, h9, h10⟩ := HP.out
                  obtain ⟨i1, i2, i3, i4, i5, i6, i7⟩ := HI0.out
                  have hL2 : L1.length + L2.length = L.length := by rw [h1, List.length_append]
                  have hR2 : R1.length + R2.length = R.length := by rw [h2, List.length_append]
                  have e0 : SM.mrg ltP L2 R2 = L2 ++ R2 := by
                    by_cases hz0 : L2.length = 0
                    · rw [List.eq_nil_of_length_eq_zero hz0, SM.mrg_nil_l, List.nil_append]
                    · rw [List.eq_nil_of_length_eq_zero (show R2.length = 0 by omega), SM.mrg_nil_r, List.append_nil]
                  rw [h5, e0]; simpa using HRow2.out)
                go_wp2
                all_goals (go_end0; exact ⟨rfl, HF.out, HBel2.out⟩)
              · have j1 : decide ((mid : Int) < (e : Int)) = false := decide_eq_false (by omega)
                have HF : Hid (Row _ g rest (pre ++ (SM.mrg ltP L R ++ post))) := Lib.hid (by
                  obtain ⟨h1, h2, h3, h4, h5, h6, h7, h8, h9, h10⟩ := HP.out
                  obtain ⟨i1, i2, i3, i4, i5, i6, i7⟩ := HI0.out
                  have hL2 : L1.length + L2.length = L.length := by rw [h1, List.length_append]
                  have hR2 : R1.length + R2.length = R.length := by rw [h2, List.length_append]
                  have e0 : SM.mrg ltP L2 R2 = L2 ++ R2 := by
                    by_cases hz0 : L2.length = 0
                    · rw [List.eq_nil_of_length_eq_zero hz0, SM.mrg_nil_l, List.nil_append]
                    · rw [List.eq_nil_of_length_eq_zero (show R2.length = 0 by omega), SM.mrg_nil_r, List.append_nil]
                  rw [h5, e0]; simpa using HRow2.out)
                go_wp2
                all_goals (go_end0; exact ⟨rfl, HF.out, HBel2.out⟩)
        · by_cases hc1a : a < i
          · have j3 : decide ((a : Int) < (i : Int)) = true := decide_eq_true (by omega)
            have j4 : decide ((i : Int) < (mid : Int)) = false := decide_eq_false (by omega)
            have HRow2 : Hid (Row _ g rest (pre ++ (SM.mrg ltP L1 R1 ++ (L2 ++ (R2 ++ post))))) := Lib.hid (by
              obtain ⟨h1, h2, h3, h4, h5, h6, h7, h8, h9, h10⟩ := HP.out
              have e0 : SM.mrg ltP L1 R1 = L1 ++ R1 := by
                by_cases hz0 : L1.length = 0
                · rw [List.eq_nil_of_length_eq_zero hz0, SM.mrg_nil_l, List.nil_append]
                · rw [List.eq_nil_of_length_eq_zero (show R1.length = 0 by omega), SM.mrg_nil_r, List.append_nil]
              rw [e0]; simpa using HRow1.out)
            by_cases hc2 : mid < e ∧ e < b
            · obtain ⟨hc2a, hc2b⟩ := hc2
              have j1 : decide ((mid : Int) < (e : Int)) = true := decide_eq_true (by omega)
              have j2 : decide ((e : Int) < (b : Int)) = true := decide_eq_true (by omega)
              go_wp2_with fail
              all_goals
                obtain ⟨h1, h2, h3, h4, h5, h6, h7, h8, h9, h10⟩ := HP.out
                obtain ⟨i1, i2, i3, i4, i5, i6, i7⟩ := HI0.out
                have hL2 : L1.length + L2.length = L.length := by rw [h1, List.length_append]
                have hR2 : R1.length + R2.length = R.length := by rw [h2, List.length_append]
                refine (IH.out g rest len cap (pre ++ SM.mrg ltP L1 R1) L2 R2 post _ B (by omega) hB (by simpa using HRow2.out) (by simp only [List.length_append, SM.mrg_length] at i7 ⊢; omega) hmax h7 h9 (by omega) (by omega) _ _ _ (by simp only [List.length_append, SM.mrg_length]; omega) (by simp only [List.length_append, SM.mrg_length]; omega) (by simp only [List.length_append, SM.mrg_length]; omega)).mono ?_
                rintro er w3 ⟨rfl, hR3, hB3⟩
                have HF : Hid (Row w3 g rest (pre ++ (SM.mrg ltP L R ++ post))) := Lib.hid (by rw [h5]; simpa using hR3)
                have HFB := Lib.hid (HBel1.out.trans hB3)
                clear h1 h2 h3 h4 h5 h6 h7 h8 h9 h10 i1 i2 i3 i4 i5 i6 i7 hL2 hR2 hR3 hB3
                go_wp2
                all_goals (go_end0; exact ⟨rfl, HF.out, HFB.out⟩)
            · by_cases hc2a : mid < e
              · have j1 : decide ((mid : Int) < (e : Int)) = true := decide_eq_true (by omega)
                have j2 : decide ((e : Int) < (b : Int)) = false := decide_eq_false (by omega)
                have HF : Hid (Row _ g rest (pre ++ (SM.mrg ltP L R ++ post))) := Lib.hid (by
                  obtain ⟨h1, h2, h3, h4, h5, h6, h7, h8, h9, h10⟩ := HP.out
                  obtain ⟨i1, i2, i3, i4, i5, i6, i7⟩ := HI0.out
                  have hL2 : L1.length + L2.length = L.length := by rw [h1, List.length_append]
                  have hR2 : R1.length + R2.length = R.length := by rw [h2, List.length_append]
                  have e0 : SM.mrg ltP L2 R2 = L2 ++ R2 := by
                    by_cases hz0 : L2.length = 0
                    · rw [List.eq_nil_of_length_eq_zero hz0, SM.mrg_nil_l, List.nil_append]
                    · rw [List.eq_nil_of_length_eq_zero (show R2.length = 0 by omega), SM.mrg_nil_r, List.append_nil]
                  rw [h5, e0]; simpa using HRow2.out)
                go_wp2
                all_goals (go_end0; exact ⟨rfl, HF.out, HBel1.out⟩)
              · have j1 : decide ((mid : Int) < (e : Int)) = false := decide_eq_false (by omega)
                have HF : Hid (Row _ g rest (pre ++ (SM.mrg ltP L R ++ post))) := Lib.hid (by
                  obtain ⟨h1, h2, h3, h4, h5, h6, h7, h8, h9, h10⟩ := HP.out
                  obtain ⟨i1, i2, i3, i4, i5, i6, i7⟩ := HI0.out
                  have hL2 : L1.length + L2.length = L.length := by rw [h1, List.length_append]
                  have hR2 : R1.length + R2.length = R.length := by rw [h2, List.length_append]
                  have e0 : SM.mrg ltP L2 R2 = L2 ++ R2 := by
                    by_cases hz0 : L2.length = 0
                    · rw [List.eq_nil_of_length_eq_zero hz0, SM.mrg_nil_l, List.nil_append]
                    · rw [List.eq_nil_of_length_eq_zero (show R2.length = 0 by omega), SM.mrg_nil_r, List.append_nil]
                  rw [h5, e0]; simpa using HRow2.out)
                go_wp2
                all_goals (go_end0; exact ⟨rfl, HF.out, HBel1.out⟩)
          · have j3 : decide ((a : Int) < (i : Int)) = false := decide_eq_false (by omega)
            have HRow2 : Hid (Row _ g rest (pre ++ (SM.mrg ltP L1 R1 ++ (L2 ++ (R2 ++ post))))) := Lib.hid (by
              obtain ⟨h1, h2, h3, h4, h5, h6, h7, h8, h9, h10⟩ := HP.out
              have e0 : SM.mrg ltP L1 R1 = L1 ++ R1 := by
                by_cases hz0 : L1.length = 0
                · rw [List.eq_nil_of_length_eq_zero hz0, SM.mrg_nil_l, List.nil_append]
                · rw [List.eq_nil_of_length_eq_zero (show R1.length = 0 by omega), SM.mrg_nil_r, List.append_nil]
              rw [e0]; simpa using HRow1.out)
            by_cases hc2 : mid < e ∧ e < b
            · obtain ⟨hc2a, hc2b⟩ := hc2
              have j1 : decide ((mid : Int) < (e : Int)) = true := decide_eq_true (by omega)
              have j2 : decide ((e : Int) < (b : Int)) = true := decide_eq_true (by omega)
              go_wp2_with fail
              all_goals
                obtain ⟨h1, h2, h3, h4, h5, h6, h7, h8, h9, h10⟩ := HP.out
                obtain ⟨i1, i2, i3, i4, i5, i6, i7⟩ := HI0.out
                have hL2 : L1.length + L2.length = L.length := by rw [h1, List.length_append]
                have hR2 : R1.length + R2.length = R.length := by rw [h2, List.length_append]
                refine (IH.out g rest len cap (pre ++ SM.mrg ltP L1 R1) L2 R2 post _ B (by omega) hB (by simpa using HRow2.out) (by simp only [List.length_append, SM.mrg_length] at i7 ⊢; omega) hmax h7 h9 (by omega) (by omega) _ _ _ (by simp only [List.length_append, SM.mrg_length]; omega) (by simp only [List.length_append, SM.mrg_length]; omega) (by simp only [List.length_append, SM.mrg_length]; omega)).mono ?_
                rintro er w3 ⟨rfl, hR3, hB3⟩
                have HF : Hid (Row w3 g rest (pre ++ (SM.mrg ltP L R ++ post))) := Lib.hid (by rw [h5]; simpa using hR3)
                have HFB := Lib.hid (HBel1.out.trans hB3)
                clear h1 h2 h3 h4 h5 h6 h7 h8 h9 h10 i1 i2 i3 i4 i5 i6 i7 hL2 hR2 hR3 hB3
                go_wp2
                all_goals (go_end0; exact ⟨rfl, HF.out, HFB.out⟩)
            · by_cases hc2a : mid < e
              · have j1 : decide ((mid : Int) < (e : Int)) = true := decide_eq_true (by omega)
                have j2 : decide ((e : Int) < (b : Int)) = false := decide_eq_false (by omega)
                have HF : Hid (Row _ g rest (pre ++ (SM.mrg ltP L R ++ post))) := Lib.hid (by
                  obtain ⟨h1, h2, h3, h4, h5, h6, h7, h8, h9, h10⟩ := HP.out
                  obtain ⟨i1, i2, i3, i4, i5, i6, i7⟩ := HI0.out
                  have hL2 : L1.length + L2.length = L.length := by rw [h1, List.length_append]
                  have hR2 : R1.length + R2.length = R.length := by rw [h2, List.length_append]
                  have e0 : SM.mrg ltP L2 R2 = L2 ++ R2 := by
                    by_cases hz0 : L2.length = 0
                    · rw [List.eq_nil_of_length_eq_zero hz0, SM.mrg_nil_l, List.nil_append]
                    · rw [List.eq_nil_of_length_eq_zero (show R2.length = 0 by omega), SM.mrg_nil_r, List.append_nil]
                  rw [h5, e0]; simpa using HRow2.out)
                go_wp2
                all_goals (go_end0; exact ⟨rfl, HF.out, HBel1.out⟩)
              · have j1 : decide ((mid : Int) < (e : Int)) = false := decide_eq_false (by omega)
                have HF : Hid (Row _ g rest (pre ++ (SM.mrg ltP L R ++ post))) := Lib.hid (by
                  obtain ⟨h1, h2, h3, h4, h5, h6, h7, h8, h9, h10⟩ := HP.out
                  obtain ⟨i1, i2, i3, i4, i5, i6, i7⟩ := HI0.out
                  have hL2 : L1.length + L2.length = L.length := by rw [h1, List.length_append]
                  have hR2 : R1.length + R2.length = R.length := by rw [h2, List.length_append]
                  have e0 : SM.mrg ltP L2 R2 = L2 ++ R2 := by
                    by_cases hz0 : L2.length = 0
                    · rw [List.eq_nil_of_length_eq_zero hz0, SM.mrg_nil_l, List.nil_append]
                    · rw [List.eq_nil_of_length_eq_zero (show R2.length = 0 by omega), SM.mrg_nil_r, List.append_nil]
                  rw [h5, e0]; simpa using HRow2.out)
                go_wp2
                all_goals (go_end0; exact ⟨rfl, HF.out, HBel1.out⟩)
      · by_cases hra : i < m
        · have j5 : decide ((i : Int) < (m : Int)) = true := decide_eq_true (by omega)
          have j6 : decide ((m : Int) < (e : Int)) = false := decide_eq_false (by omega)
          have HRow1 : Hid (Row _ g rest (pre ++ (L1 ++ (R1 ++ (L2 ++ (R2 ++ post)))))) := Lib.hid (by
            obtain ⟨h1, h2, h3, h4, h5, h6, h7, h8, h9, h10⟩ := HP.out
            obtain ⟨i1, i2, i3, i4, i5, i6, i7⟩ := HI0.out
            have hL2 : L1.length + L2.length = L.length := by rw [h1, List.length_append]
            have hrow0 := HRow.out
            rw [h1, h2] at hrow0
            by_cases hz0 : L2.length = 0
            · rw [List.eq_nil_of_length_eq_zero hz0] at hrow0 ⊢; simpa using hrow0
            · rw [List.eq_nil_of_length_eq_zero (show R1.length = 0 by omega)] at hrow0 ⊢; simpa using hrow0)
          by_cases hc1 : a < i ∧ i < mid
          · obtain ⟨hc1a, hc1b⟩ := hc1
            have j3 : decide ((a : Int) < (i : Int)) = true := decide_eq_true (by omega)
            have j4 : decide ((i : Int) < (mid : Int)) = true := decide_eq_true (by omega)
            go_wp2_with fail
            all_goals
              obtain ⟨h1, h2, h3, h4, h5, h6, h7, h8, h9, h10⟩ := HP.out
              obtain ⟨i1, i2, i3, i4, i5, i6, i7⟩ := HI0.out
              have hL2 : L1.length + L2.length = L.length := by rw [h1, List.length_append]
              have hR2 : R1.length + R2.length = R.length := by rw [h2, List.length_append]
              refine (IH.out g rest len cap pre L1 R1 (L2 ++ (R2 ++ post)) _ B (by omega) hB (by simpa using HRow1.out) (by simp only [List.length_append] at i7 ⊢; omega) hmax h6 h8 (by omega) (by omega) _ _ _ (by omega) (by omega) (by omega)).mono ?_
              rintro er w2 ⟨rfl, hR2w, hB2w⟩
              have HRow2 : Hid (Row w2 g rest (pre ++ (SM.mrg ltP L1 R1 ++ (L2 ++ (R2 ++ post))))) := Lib.hid hR2w
              have HBel2 := Lib.hid (HBel.out.trans hB2w)
              clear h1 h2 h3 h4 h5 h6 h7 h8 h9 h10 i1 i2 i3 i4 i5 i6 i7 hL2 hR2 hR2w hB2w
              by_cases hc2 : mid < e ∧ e < b
              · obtain ⟨hc2a, hc2b⟩ := hc2
                have j1 : decide ((mid : Int) < (e : Int)) = true := decide_eq_true (by omega)
                have j2 : decide ((e : Int) < (b : Int)) = true := decide_eq_true (by omega)
                go_wp2_with fail
                all_goals
                  obtain ⟨h1, h2, h3, h4, h5, h6, h7, h8, h9, h10⟩ := HP.out
                  obtain ⟨i1, i2, i3, i4, i5, i6, i7⟩ := HI0.out
                  have hL2 : L1.length + L2.length = L.length := by rw [h1, List.length_append]
                  have hR2 : R1.length + R2.length = R.length := by rw [h2, List.length_append]
                  refine (IH.out g rest len cap (pre ++ SM.mrg ltP L1 R1) L2 R2 post _ B (by omega) hB (by simpa using HRow2.out) (by simp only [List.length_append, SM.mrg_length] at i7 ⊢; omega) hmax h7 h9 (by omega) (by omega) _ _ _ (by simp only [List.length_append, SM.mrg_length]; omega) (by simp only [List.length_append, SM.mrg_length]; omega) (by simp only [List.length_append, SM.mrg_length]; omega)).mono ?_
                  rintro er w3 ⟨rfl, hR3, hB3⟩
                  have HF : Hid (Row w3 g rest (pre ++ (SM.mrg ltP L R ++ post))) := Lib.hid (by rw [h5]; simpa using hR3)
                  have HFB := Lib.hid (HBel2.out.trans hB3)
                  clear h1 h2 h3 h4 h5 h6 h7 h8 h9 h10 i1 i2 i3 i4 i5 i6 i7 hL2 hR2 hR3 hB3
                  go_wp2
                  all_goals (go_end0; exact ⟨rfl, HF.out, HFB.out⟩)
              · by_cases hc2a : mid < e
                · have j1 : decide ((mid : Int) < (e : Int)) = true := decide_eq_true (by omega)
                  have j2 : decide ((e : Int) < (b : Int)) = false := decide_eq_false (by omega)
                  have HF : Hid (Row _ g rest (pre ++ (SM.mrg ltP L R ++ post))) := Lib.hid (by
                    obtain ⟨h1, h2, h3, h4, h5, h6, h7, h8, h9, h10⟩ := HP.out
                    obtain ⟨i1, i2, i3, i4, i5, i6, i7⟩ := HI0.out
                    have hL2 : L1.length + L2.length = L.length := by rw [h1, List.length_append]
                    have hR2 : R1.length + R2.length = R.length := by rw [h2, List.length_append]
                    have e0 : SM.mrg ltP L2 R2 = L2 ++ R2 := by
                      by_cases hz0 : L2.length = 0
                      · rw [List.eq_nil_of_length_eq_zero hz0, SM.mrg_nil_l, List.nil_append]
                      · rw [List.eq_nil_of_length_eq_zero (show R2.length = 0 by omega), SM.mrg_nil_r, List.append_nil]
                    rw [h5, e0]; simpa using HRow2.out)
                  go_wp2
                  all_goals (go_end0; exact ⟨rfl, HF.out, HBel2.out⟩)
                · have j1 : decide ((mid : Int) < (e : Int)) = false := decide_eq_false (by omega)
                  have HF : Hid (Row _ g rest (pre ++ (SM.mrg ltP L R ++ post))) := Lib.hid (by
                    obtain ⟨h1, h2, h3, h4, h5, h6, h7, h8, h9, h10⟩ := HP.out
                    obtain ⟨i1, i2, i3, i4, i5, i6, i7⟩ := HI0.out
                    have hL2 : L1.length + L2.length = L.length := by rw [h1, List.length_append]
                    have hR2 : R1.length + R2.length = R.length := by rw [h2, List.length_append]
                    have e0 : SM.mrg ltP L2 R2 = L2 ++ R2 := by
                      by_cases hz0 : L2.length = 0
                      · rw [List.eq_nil_of_length_eq_zero hz0, SM.mrg_nil_l, List.nil_append]
                      · rw [List.eq_nil_of_length_eq_zero (show R2.length = 0 by omega), SM.mrg_nil_r, List.append_nil]
                    rw [h5, e0]; simpa using HRow2.out)
                  go_wp2
                  all_goals (go_end0; exact ⟨rfl, HF.out, HBel2.out⟩)
          · by_cases hc1a : a < i
            · have j3 : decide ((a : Int) < (i : Int)) = true := decide_eq_true (by omega)
              have j4 : decide ((i : Int) < (mid : Int)) = false := decide_eq_false (by omega)
              have HRow2 : Hid (Row _ g rest (pre ++ (SM.mrg ltP L1 R1 ++ (L2 ++ (R2 ++ post))))) := Lib.hid (by
                obtain ⟨h1, h2, h3, h4, h5, h6, h7, h8, h9, h10⟩ := HP.out
                have e0 : SM.mrg ltP L1 R1 = L1 ++ R1 := by
                  by_cases hz0 : L1.length = 0
                  · rw [List.eq_nil_of_length_eq_zero hz0, SM.mrg_nil_l, List.nil_append]
                  · rw [List.eq_nil_of_length_eq_zero (show R1.length = 0 by omega), SM.mrg_nil_r, List.append_nil]
                rw [e0]; simpa using HRow1.out)
              by_cases hc2 : mid < e ∧ e < b
              · obtain ⟨hc2a, hc2b⟩ := hc2
                have j1 : decide ((mid : Int) < (e : Int)) = true := decide_eq_true (by omega)
                have j2 : decide ((e : Int) < (b : Int)) = true := decide_eq_true (by omega)
                go_wp2_with fail
                all_goals
                  obtain ⟨h1, h2, h3, h4, h5, h6, h7, h8, h9, h10⟩ := HP.out
                  obtain ⟨i1, i2, i3, i4, i5, i6, i7⟩ := HI0.out
                  have hL2 : L1.length + L2.length = L.length := by rw [h1, List.length_append]
                  have hR2 : R1.length + R2.length = R.length := by rw [h2, List.length_append]
                  refine (IH.out g rest len cap (pre ++ SM.mrg ltP L1 R1) L2 R2 post _ B (by omega) hB (by simpa using HRow2.out) (by simp only [List.length_append, SM.mrg_length] at i7 ⊢; omega) hmax h7 h9 (by omega) (by omega) _ _ _ (by simp only [List.length_append, SM.mrg_length]; omega) (by simp only [List.length_append, SM.mrg_length]; omega) (by simp only [List.length_append, SM.mrg_length]; omega)).mono ?_
                  rintro er w3 ⟨rfl, hR3, hB3⟩
                  have HF : Hid (Row w3 g rest (pre ++ (SM.mrg ltP L R ++ post))) := Lib.hid (by rw [h5]; simpa using hR3)
                  have HFB := Lib.hid (HBel.out.trans hB3)
                  clear h1 h2 h3 h4 h5 h6 h7 h8 h9 h10 i1 i2 i3 i4 i5 i6 i7 hL2 hR2 hR3 hB3
                  go_wp2
                  all_goals (go_end0; exact ⟨rfl, HF.out, HFB.out⟩)
              · by_cases hc2a : mid < e
                · have j1 : decide ((mid : Int) < (e : Int)) = true := decide_eq_true (by omega)
                  have j2 : decide ((e : Int) < (b : Int)) = false := decide_eq_false (by omega)
                  have HF : Hid (Row _ g rest (pre ++ (SM.mrg ltP L R ++ post))) := Lib.hid (by
                    obtain ⟨h1, h2, h3, h4, h5, h6, h7, h8, h9, h10⟩ := HP.out
                    obtain ⟨i1, i2, i3, i4, i5, i6, i7⟩ := HI0.out
                    have hL2 : L1.length + L2.length = L.length := by rw [h1, List.length_append]
                    have hR2 : R1.length + R2.length = R.length := by rw [h2, List.length_append]
                    have e0 : SM.mrg ltP L2 R2 = L2 ++ R2 := by
                      by_cases hz0 : L2.length = 0
                      · rw [List.eq_nil_of_length_eq_zero hz0, SM.mrg_nil_l, List.nil_append]
                      · rw [List.eq_nil_of_length_eq_zero (show R2.length = 0 by omega), SM.mrg_nil_r, List.append_nil]
                    rw [h5, e0]; simpa using HRow2.out)
                  go_wp2
                  all_goals (go_end0; exact ⟨rfl, HF.out, HBel.out⟩)
                · have j1 : decide ((mid : Int) < (e : Int)) = false := decide_eq_false (by omega)
                  have HF : Hid (Row _ g rest (pre ++ (SM.mrg ltP L R ++ post))) := Lib.hid (by
                    obtain ⟨h1, h2, h3, h4, h5, h6, h7, h8, h9, h10⟩ := HP.out
                    obtain ⟨i1, i2, i3, i4, i5, i6, i7⟩ := HI0.out
                    have hL2 : L1.length + L2.length = L.length := by rw [h1, List.length_append]
                    have hR2 : R1.length + R2.length = R.length := by rw [h2, List.length_append]
                    have e0 : SM.mrg ltP L2 R2 = L2 ++ R2 := by
                      by_cases hz0 : L2.length = 0
                      · rw [List.eq_nil_of_length_eq_zero hz0, SM.mrg_nil_l, List.nil_append]
                      · rw [List.eq_nil_of_length_eq_zero (show R2.length = 0 by omega), SM.mrg_nil_r, List.append_nil]
                    rw [h5, e0]; simpa using HRow2.out)
                  go_wp2
                  all_goals (go_end0; exact ⟨rfl, HF.out, HBel.out⟩)
            · have j3 : decide ((a : Int) < (i : Int)) = false := decide_eq_false (by omega)
              have HRow2 : Hid (Row _ g rest (pre ++ (SM.mrg ltP L1 R1 ++ (L2 ++ (R2 ++ post))))) := Lib.hid (by
                obtain ⟨h1, h2, h3, h4, h5, h6, h7, h8, h9, h10⟩ := HP.out
                have e0 : SM.mrg ltP L1 R1 = L1 ++ R1 := by
                  by_cases hz0 : L1.length = 0
                  · rw [List.eq_nil_of_length_eq_zero hz0, SM.mrg_nil_l, List.nil_append]
                  · rw [List.eq_nil_of_length_eq_zero (show R1.length = 0 by omega), SM.mrg_nil_r, List.append_nil]
                rw [e0]; simpa using HRow1.out)
              by_cases hc2 : mid < e ∧ e < b
              · obtain ⟨hc2a, hc2b⟩ := hc2
                have j1 : decide ((mid : Int) < (e : Int)) = true := decide_eq_true (by omega)
                have j2 : decide ((e : Int) < (b : Int)) = true := decide_eq_true (by omega)
                go_wp2_with fail
                all_goals
                  obtain ⟨h1, h2, h3, h4, h5, h6, h7, h8, h9, h10⟩ := HP.out
                  obtain ⟨i1, i2, i3, i4, i5, i6, i7⟩ := HI0.out
                  have hL2 : L1.length + L2.length = L.length := by rw [h1, List.length_append]
                  have hR2 : R1.length + R2.length = R.length := by rw [h2, List.length_append]
                  refine (IH.out g rest len cap (pre ++ SM.mrg ltP L1 R1) L2 R2 post _ B (by omega) hB (by simpa using HRow2.out) (by simp only [List.length_append, SM.mrg_length] at i7 ⊢; omega) hmax h7 h9 (by omega) (by omega) _ _ _ (by simp only [List.length_append, SM.mrg_length]; omega) (by simp only [List.length_append, SM.mrg_length]; omega) (by simp only [List.length_append, SM.mrg_length]; omega)).mono ?_
                  rintro er w3 ⟨rfl, hR3, hB3⟩
                  have HF : Hid (Row w3 g rest (pre ++ (SM.mrg ltP L R ++ post))) := Lib.hid (by rw [h5]; simpa using hR3)
                  have HFB := Lib.hid (HBel.out.trans hB3)
                  clear h1 h2 h3 h4 h5 h6 h7 h8 h9 h10 i1 i2 i3 i4 i5 i6 i7 hL2 hR2 hR3 hB3
                  go_wp2
                  all_goals (go_end0; exact ⟨rfl, HF.out, HFB.out⟩)
              · by_cases hc2a : mid < e
                · have j1 : decide ((mid : Int) < (e : Int)) = true := decide_eq_true (by omega)
                  have j2 : decide ((e : Int) < (b : Int)) = false := decide_eq_false (by omega)
                  have HF : Hid (Row _ g rest (pre ++ (SM.mrg ltP L R ++ post))) := Lib.hid (by
                    obtain ⟨h1, h2, h3, h4, h5, h6, h7, h8, h9, h10⟩ := HP.out
                    obtain ⟨i1, i2, i3, i4, i5, i6, i7⟩ := HI0.out
                    have hL2 : L1.length + L2.length = L.length := by rw [h1, List.length_append]
                    have hR2 : R1.length + R2.length = R.length := by rw [h2, List.length_append]
                    have e0 : SM.mrg ltP L2 R2 = L2 ++ R2 := by
                      by_cases hz0 : L2.length = 0
                      · rw [List.eq_nil_of_length_eq_zero hz0, SM.mrg_nil_l, List.nil_append]
                      · rw [List.eq_nil_of_length_eq_zero (show R2.length = 0 by omega), SM.mrg_nil_r, List.append_nil]
                    rw [h5, e0]; simpa using HRow2.out)
                  go_wp2
                  all_goals (go_end0; exact ⟨rfl, HF.out, HBel.out⟩)
                · have j1 : decide ((mid : Int) < (e : Int)) = false := decide_eq_false (by omega)
                  have HF : Hid (Row _ g rest (pre ++ (SM.mrg ltP L R ++ post))) := Lib.hid (by
                    obtain ⟨h1, h2, h3, h4, h5, h6, h7, h8, h9, h10⟩ := HP.out
                    obtain ⟨i1, i2, i3, i4, i5, i6, i7⟩ := HI0.out
                    have hL2 : L1.length + L2.length = L.length := by rw [h1, List.length_append]
                    have hR2 : R1.length + R2.length = R.length := by rw [h2, List.length_append]
                    have e0 : SM.mrg ltP L2 R2 = L2 ++ R2 := by
                      by_cases hz0 : L2.length = 0
                      · rw [List.eq_nil_of_length_eq_zero hz0, SM.mrg_nil_l, List.nil_append]
                      · rw [List.eq_nil_of_length_eq_zero (show R2.length = 0 by omega), SM.mrg_nil_r, List.append_nil]
                    rw [h5, e0]; simpa using HRow2.out)
                  go_wp2
                  all_goals (go_end0; exact ⟨rfl, HF.out, HBel.out⟩)
        · have j5 : decide ((i : Int) < (m : Int)) = false := decide_eq_false (by omega)
          have HRow1 : Hid (Row _ g rest (pre ++ (L1 ++ (R1 ++ (L2 ++ (R2 ++ post)))))) := Lib.hid (by
            obtain ⟨h1, h2, h3, h4, h5, h6, h7, h8, h9, h10⟩ := HP.out
            obtain ⟨i1, i2, i3, i4, i5, i6, i7⟩ := HI0.out
            have hL2 : L1.length + L2.length = L.length := by rw [h1, List.length_append]
            have hrow0 := HRow.out
            rw [h1, h2] at hrow0
            by_cases hz0 : L2.length = 0
            · rw [List.eq_nil_of_length_eq_zero hz0] at hrow0 ⊢; simpa using hrow0
            · rw [List.eq_nil_of_length_eq_zero (show R1.length = 0 by omega)] at hrow0 ⊢; simpa using hrow0)
          by_cases hc1 : a < i ∧ i < mid
          · obtain ⟨hc1a, hc1b⟩ := hc1
            have j3 : decide ((a : Int) < (i : Int)) = true := decide_eq_true (by omega)
            have j4 : decide ((i : Int) < (mid : Int)) = true := decide_eq_true (by omega)
            go_wp2_with fail
            all_goals
              obtain ⟨h1, h2, h3, h4, h5, h6, h7, h8, h9, h10⟩ := HP.out
              obtain ⟨i1, i2, i3, i4, i5, i6, i7⟩ := HI0.out
              have hL2 : L1.length + L2.length = L.length := by rw [h1, List.length_append]
              have hR2 : R1.length + R2.length = R.length := by rw [h2, List.length_append]
              refine (IH.out g rest len cap pre L1 R1 (L2 ++ (R2 ++ post)) _ B (by omega) hB (by simpa using HRow1.out) (by simp only [List.length_append] at i7 ⊢; omega) hmax h6 h8 (by omega) (by omega) _ _ _ (by omega) (by omega) (by omega)).mono ?_
              rintro er w2 ⟨rfl, hR2w, hB2w⟩
              have HRow2 : Hid (Row w2 g rest (pre ++ (SM.mrg ltP L1 R1 ++ (L2 ++ (R2 ++ post))))) := Lib.hid hR2w
              have HBel2 := Lib.hid (HBel.out.trans hB2w)
              clear h1 h2 h3 h4 h5 h6 h7 h8 h9 h10 i1 i2 i3 i4 i5 i6 i7 hL2 hR2 hR2w hB2w
              by_cases hc2 : mid < e ∧ e < b
              · obtain ⟨hc2a, hc2b⟩ := hc2
                have j1 : decide ((mid : Int) < (e : Int)) = true := decide_eq_true (by omega)
                have j2 : decide ((e : Int) < (b : Int)) = true := decide_eq_true (by omega)
                go_wp2_with fail
                all_goals
                  obtain ⟨h1, h2, h3, h4, h5, h6, h7, h8, h9, h10⟩ := HP.out
                  obtain ⟨i1, i2, i3, i4, i5, i6, i7⟩ := HI0.out
                  have hL2 : L1.length + L2.length = L.length := by rw [h1, List.length_append]
                  have hR2 : R1.length + R2.length = R.length := by rw [h2, List.length_append]
                  refine (IH.out g rest len cap (pre ++ SM.mrg ltP L1 R1) L2 R2 post _ B (by omega) hB (by simpa using HRow2.out) (by simp only [List.length_append, SM.mrg_length] at i7 ⊢; omega) hmax h7 h9 (by omega) (by omega) _ _ _ (by simp only [List.length_append, SM.mrg_length]; omega) (by simp only [List.length_append, SM.mrg_length]; omega) (by simp only [List.length_append, SM.mrg_length]; omega)).mono ?_
                  rintro er w3 ⟨rfl, hR3, hB3⟩
                  have HF : Hid (Row w3 g rest (pre ++ (SM.mrg ltP L R ++ post))) := Lib.hid (by rw [h5]; simpa using hR3)
                  have HFB := Lib.hid (HBel2.out.trans hB3)
                  clear h1 h2 h3 h4 h5 h6 h7 h8 h9 h10 i1 i2 i3 i4 i5 i6 i7 hL2 hR2 hR3 hB3
                  go_wp2
                  all_goals (go_end0; exact ⟨rfl, HF.out, HFB.out⟩)
              · by_cases hc2a : mid < e
                · have j1 : decide ((mid : Int) < (e : Int)) = true := decide_eq_true (by omega)
                  have j2 : decide ((e : Int) < (b : Int)) = false := decide_eq_false (by omega)
                  have HF : Hid (Row _ g rest (pre ++ (SM.mrg ltP L R ++ post))) := Lib.hid (by
                    obtain ⟨h1, h2, h3, h4, h5, h6, h7, h8, h9, h10⟩ := HP.out
                    obtain ⟨i1, i2, i3, i4, i5, i6, i7⟩ := HI0.out
                    have hL2 : L1.length + L2.length = L.length := by rw [h1, List.length_append]
                    have hR2 : R1.length + R2.length = R.length := by rw [h2, List.length_append]
                    have e0 : SM.mrg ltP L2 R2 = L2 ++ R2 := by
                      by_cases hz0 : L2.length = 0
                      · rw [List.eq_nil_of_length_eq_zero hz0, SM.mrg_nil_l, List.nil_append]
                      · rw [List.eq_nil_of_length_eq_zero (show R2.length = 0 by omega), SM.mrg_nil_r, List.append_nil]
                    rw [h5, e0]; simpa using HRow2.out)
                  go_wp2
                  all_goals (go_end0; exact ⟨rfl, HF.out, HBel2.out⟩)
                · have j1 : decide ((mid : Int) < (e : Int)) = false := decide_eq_false (by omega)
                  have HF : Hid (Row _ g rest (pre ++ (SM.mrg ltP L R ++ post))) := Lib.hid (by
                    obtain ⟨h1, h2, h3, h4, h5, h6, h7, h8, h9, h10⟩ := HP.out
                    obtain ⟨i1, i2, i3, i4, i5, i6, i7⟩ := HI0.out
                    have hL2 : L1.length + L2.length = L.length := by rw [h1, List.length_append]
                    have hR2 : R1.length + R2.length = R.length := by rw [h2, List.length_append]
                    have e0 : SM.mrg ltP L2 R2 = L2 ++ R2 := by
                      by_cases hz0 : L2.length = 0
                      · rw [List.eq_nil_of_length_eq_zero hz0, SM.mrg_nil_l, List.nil_append]
                      · rw [List.eq_nil_of_length_eq_zero (show R2.length = 0 by omega), SM.mrg_nil_r, List.append_nil]
                    rw [h5, e0]; simpa using HRow2.out)
                  go_wp2
                  all_goals (go_end0; exact ⟨rfl, HF.out, HBel2.out⟩)
          · by_cases hc1a : a < i
            · have j3 : decide ((a : Int) < (i : Int)) = true := decide_eq_true (by omega)
              have j4 : decide ((i : Int) < (mid : Int)) = false := decide_eq_false (by omega)
              have HRow2 : Hid (Row _ g rest (pre ++ (SM.mrg ltP L1 R1 ++ (L2 ++ (R2 ++ post))))) := Lib.hid (by
                obtain ⟨h1, h2, h3, h4, h5, h6, h7, h8, h9, h10⟩ := HP.out
                have e0 : SM.mrg ltP L1 R1 = L1 ++ R1 := by
                  by_cases hz0 : L1.length = 0
                  · rw [List.eq_nil_of_length_eq_zero hz0, SM.mrg_nil_l, List.nil_append]
                  · rw [List.eq_nil_of_length_eq_zero (show R1.length = 0 by omega), SM.mrg_nil_r, List.append_nil]
                rw [e0]; simpa using HRow1.out)
              by_cases hc2 : mid < e ∧ e < b
              · obtain ⟨hc2a, hc2b⟩ := hc2
                have j1 : decide ((mid : Int) < (e : Int)) = true := decide_eq_true (by omega)
                have j2 : decide ((e : Int) < (b : Int)) = true := decide_eq_true (by omega)
                go_wp2_with fail
                all_goals
                  obtain ⟨h1, h2, h3, h4, h5, h6, h7, h8, h9, h10⟩ := HP.out
                  obtain ⟨i1, i2, i3, i4, i5, i6, i7⟩ := HI0.out
                  have hL2 : L1.length + L2.length = L.length := by rw [h1, List.length_append]
                  have hR2 : R1.length + R2.length = R.length := by rw [h2, List.length_append]
                  refine (IH.out g rest len cap (pre ++ SM.mrg ltP L1 R1) L2 R2 post _ B (by omega) hB (by simpa using HRow2.out) (by simp only [List.length_append, SM.mrg_length] at i7 ⊢; omega) hmax h7 h9 (by omega) (by omega) _ _ _ (by simp only [List.length_append, SM.mrg_length]; omega) (by simp only [List.length_append, SM.mrg_length]; omega) (by simp only [List.length_append, SM.mrg_length]; omega)).mono ?_
                  rintro er w3 ⟨rfl, hR3, hB3⟩
                  have HF : Hid (Row w3 g rest (pre ++ (SM.mrg ltP L R ++ post))) := Lib.hid (by rw [h5]; simpa using hR3)
                  have HFB := Lib.hid (HBel.out.trans hB3)
                  clear h1 h2 h3 h4 h5 h6 h7 h8 h9 h10 i1 i2 i3 i4 i5 i6 i7 hL2 hR2 hR3 hB3
                  go_wp2
                  all_goals (go_end0; exact ⟨rfl, HF.out, HFB.out⟩)
              · by_cases hc2a : mid < e
                · have j1 : decide ((mid : Int) < (e : Int)) = true := decide_eq_true (by omega)
                  have j2 : decide ((e : Int) < (b : Int)) = false := decide_eq_false (by omega)
                  have HF : Hid (Row _ g rest (pre ++ (SM.mrg ltP L R ++ post))) := Lib.hid (by
                    obtain ⟨h1, h2, h3, h4, h5, h6, h7, h8, h9, h10⟩ := HP.out
                    obtain ⟨i1, i2, i3, i4, i5, i6, i7⟩ := HI0.out
                    have hL2 : L1.length + L2.length = L.length := by rw [h1, List.length_append]
                    have hR2 : R1.length + R2.length = R.length := by rw [h2, List.length_append]
                    have e0 : SM.mrg ltP L2 R2 = L2 ++ R2 := by
                      by_cases hz0 : L2.length = 0
                      · rw [List.eq_nil_of_length_eq_zero hz0, SM.mrg_nil_l, List.nil_append]
                      · rw [List.eq_nil_of_length_eq_zero (show R2.length = 0 by omega), SM.mrg_nil_r, List.append_nil]
                    rw [h5, e0]; simpa using HRow2.out)
                  go_wp2
                  all_goals (go_end0; exact ⟨rfl, HF.out, HBel.out⟩)
                · have j1 : decide ((mid : Int) < (e : Int)) = false := decide_eq_false (by omega)
                  have HF : Hid (Row _ g rest (pre ++ (SM.mrg ltP L R ++ post))) := Lib.hid (by
                    obtain ⟨h1, h2, h3, h4, h5, h6, h7, h8, h9, h10⟩ := HP.out
                    obtain ⟨i1, i2, i3, i4, i5, i6, i7⟩ := HI0.out
                    have hL2 : L1.length + L2.length = L.length := by rw [h1, List.length_append]
                    have hR2 : R1.length + R2.length = R.length := by rw [h2, List.length_append]
                    have e0 : SM.mrg ltP L2 R2 = L2 ++ R2 := by
                      by_cases hz0 : L2.length = 0
                      · rw [List.eq_nil_of_length_eq_zero hz0, SM.mrg_nil_l, List.nil_append]
                      · rw [List.eq_nil_of_length_eq_zero (show R2.length = 0 by omega), SM.mrg_nil_r, List.append_nil]
                    rw [h5, e0]; simpa using HRow2.out)
                  go_wp2
                  all_goals (go_end0; exact ⟨rfl, HF.out, HBel.out⟩)
            · have j3 : decide ((a : Int) < (i : Int)) = false := decide_eq_false (by omega)
              have HRow2 : Hid (Row _ g rest (pre ++ (SM.mrg ltP L1 R1 ++ (L2 ++ (R2 ++ post))))) := Lib.hid (by
                obtain ⟨h1, h2, h3, h4, h5, h6, h7, h8, h9, h10⟩ := HP.out
                have e0 : SM.mrg ltP L1 R1 = L1 ++ R1 := by
                  by_cases hz0 : L1.length = 0
                  · rw [List.eq_nil_of_length_eq_zero hz0, SM.mrg_nil_l, List.nil_append]
                  · rw [List.eq_nil_of_length_eq_zero (show R1.length = 0 by omega), SM.mrg_nil_r, List.append_nil]
                rw [e0]; simpa using HRow1.out)
              by_cases hc2 : mid < e ∧ e < b
              · obtain ⟨hc2a, hc2b⟩ := hc2
                have j1 : decide ((mid : Int) < (e : Int)) = true := decide_eq_true (by omega)
                have j2 : decide ((e : Int) < (b : Int)) = true := decide_eq_true (by omega)
                go_wp2_with fail
                all_goals
                  obtain ⟨h1, h2, h3, h4, h5, h6, h7, h8, h9, h10⟩ := HP.out
                  obtain ⟨i1, i2, i3, i4, i5, i6, i7⟩ := HI0.out
                  have hL2 : L1.length + L2.length = L.length := by rw [h1, List.length_append]
                  have hR2 : R1.length + R2.length = R.length := by rw [h2, List.length_append]
                  refine (IH.out g rest len cap (pre ++ SM.mrg ltP L1 R1) L2 R2 post _ B (by omega) hB (by simpa using HRow2.out) (by simp only [List.length_append, SM.mrg_length] at i7 ⊢; omega) hmax h7 h9 (by omega) (by omega) _ _ _ (by simp only [List.length_append, SM.mrg_length]; omega) (by simp only [List.length_append, SM.mrg_length]; omega) (by simp only [List.length_append, SM.mrg_length]; omega)).mono ?_
                  rintro er w3 ⟨rfl, hR3, hB3⟩
                  have HF : Hid (Row w3 g rest (pre ++ (SM.mrg ltP L R ++ post))) := Lib.hid (by rw [h5]; simpa using hR3)
                  have HFB := Lib.hid (HBel.out.trans hB3)
                  clear h1 h2 h3 h4 h5 h6 h7 h8 h9 h10 i1 i2 i3 i4 i5 i6 i7 hL2 hR2 hR3 hB3
                  go_wp2
                  all_goals (go_end0; exact ⟨rfl, HF.out, HFB.out⟩)
              · by_cases hc2a : mid < e
                · have j1 : decide ((mid : Int) < (e : Int)) = true := decide_eq_true (by omega)
                  have j2 : decide ((e : Int) < (b : Int)) = false := decide_eq_false (by omega)
                  have HF : Hid (Row _ g rest (pre ++ (SM.mrg ltP L R ++ post))) := Lib.hid (by
                    obtain ⟨h1, h2, h3, h4, h5, h6, h7, h8, h9, h10⟩ := HP.out
                    obtain ⟨i1, i2, i3, i4, i5, i6, i7⟩ := HI0.out
                    have hL2 : L1.length + L2.length = L.length := by rw [h1, List.length_append]
                    have hR2 : R1.length + R2.length = R.length := by rw [h2, List.length_append]
                    have e0 : SM.mrg ltP L2 R2 = L2 ++ R2 := by
                      by_cases hz0 : L2.length = 0
                      · rw [List.eq_nil_of_length_eq_zero hz0, SM.mrg_nil_l, List.nil_append]
                      · rw [List.eq_nil_of_length_eq_zero (show R2.length = 0 by omega), SM.mrg_nil_r, List.append_nil]
                    rw [h5, e0]; simpa using HRow2.out)
                  go_wp2
                  all_goals (go_end0; exact ⟨rfl, HF.out, HBel.out⟩)
                · have j1 : decide ((mid : Int) < (e : Int)) = false := decide_eq_false (by omega)
                  have HF : Hid (Row _ g rest (pre ++ (SM.mrg ltP L R ++ post))) := Lib.hid (by
                    obtain ⟨h1, h2, h3, h4, h5, h6, h7, h8, h9, h10⟩ := HP.out
                    obtain ⟨i1, i2, i3, i4, i5, i6, i7⟩ := HI0.out
                    have hL2 : L1.length + L2.length = L.length := by rw [h1, List.length_append]
                    have hR2 : R1.length + R2.length = R.length := by rw [h2, List.length_append]
                    have e0 : SM.mrg ltP L2 R2 = L2 ++ R2 := by
                      by_cases hz0 : L2.length = 0
                      · rw [List.eq_nil_of_length_eq_zero hz0, SM.mrg_nil_l, List.nil_append]
                      · rw [List.eq_nil_of_length_eq_zero (show R2.length = 0 by omega), SM.mrg_nil_r, List.append_nil]
                    rw [h5, e0]; simpa using HRow2.out)
                  go_wp2
                  all_goals (go_end0; exact ⟨rfl, HF.out, HBel.out⟩)
end Go.Proofs.YtbclodbneonipaaGreat
