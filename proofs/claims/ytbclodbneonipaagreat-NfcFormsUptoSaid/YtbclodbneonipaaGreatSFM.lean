import Derived.Test.YtbclodbneonipaaGreatSDM
namespace Go.Proofs.YtbclodbneonipaaGreat
open Go.RowKit N
theorem srt_get {l : List Pl} (h : SM.Srt ltP l) {i j : Nat} {x y : Pl} (hx : l[i]? = some x) (hy : l[j]? = some y) (hij : i < j) : ltP y x = false := by
  obtain ⟨h1, rfl⟩ := List.getElem?_eq_some_iff.1 hx
  obtain ⟨h2, rfl⟩ := List.getElem?_eq_some_iff.1 hy
  exact List.pairwise_iff_getElem.1 h i j h1 h2 hij
theorem get_part (pre L post : List Pl) {i : Nat} {x : Pl} (h : L[i]? = some x) : (pre ++ (L ++ post))[pre.length + i]? = some x := by
  rw [List.getElem?_append_right (by omega), Nat.add_sub_cancel_left, List.getElem?_append_left (List.getElem?_eq_some_iff.1 h).1]
  exact h
set_option maxRecDepth 100000 in
set_option maxHeartbeats 8000000 in
theorem sym_first (g : Nat) (rest : List Value) (len cap : Nat) (pre : List Pl) (x : Pl) (R post : List Pl) (w : World) (B : Nat) (hB : B ≤ g) (hR : Row w g rest (pre ++ (([x] ++ R) ++ post))) (hlen : (pre ++ (([x] ++ R) ++ post)).length = len) (hmax : len ≤ 35184372088320) (hS : SM.Srt ltP R) (a m b : Nat) (ha : pre.length = a) (hm : m = a + 1) (hb : m + R.length = b) :
    Calls Tryz.prog 88 #[.slice (some ⟨g, 0, none⟩) len cap, .int .i64 a, .int .i64 m, .int .i64 b, CMP] w fun e w' => e = .returned (.tuple #[]) ∧ Row w' g rest (pre ++ (SM.mrg ltP [x] R ++ post)) ∧ Below B w w' := by
  have hlen' : pre.length + 1 + R.length + post.length = len := by rw [← hlen]; simp; omega
  have b1 : b ≤ len := by omega
  have b2 : m ≤ b := by omega
  have am : a + 1 ≤ m := by omega
  have ma : m ≤ a + 1 := by omega
  have HI0 : Hid (R.length = b - m ∧ pre.length = a ∧ pre.length + 1 + R.length + post.length = len) := Lib.hid ⟨by omega, ha, hlen'⟩
  have HR0 := Lib.hid hR
  have HS := Lib.hid hS
  have hm0 : Tryz.prog.follows .mixedOrders = true := by kernel_rfl
  have wz : IntKind.i64.wrap ((m : Int) - (a : Int)) = 1 := by rw [show (m : Int) - (a : Int) = 1 by omega]; rfl
  have wz2 : (m : Int) - (a : Int) = 1 := by omega
  clear hlen hlen' hR ha hb hS hm
  unfold CMP
  go_enter Tryz.func88, Tryz.ntmps88
  go_wp2
  go_loopw [10, 11] (fun iv jv wr => ∃ (i j : Nat), iv = .int .i64 i ∧ jv = .int .i64 j ∧ m ≤ i ∧ i ≤ j ∧ j ≤ b ∧ Hid ((∀ k y, R[k]? = some y → k + m < i → ltP y x = true) ∧ (∀ k y, R[k]? = some y → j ≤ k + m → ltP y x = false)) ∧ Row wr g rest (pre ++ (([x] ++ R) ++ post)) ∧ Below B w wr) (fun i j _ => (intOf j).toNat - (intOf i).toNat)
  case atStart =>
    obtain ⟨h1, h2, h3⟩ := HI0.out
    refine ⟨m, b, rfl, rfl, Nat.le_refl _, b2, Nat.le_refl _, Lib.hid ⟨fun k y _ h => by omega, fun k y hk h => ?_⟩, HR0.out, Below.refl _ _⟩
    have := (List.getElem?_eq_some_iff.1 hk).1
    omega
  case round =>
    obtain ⟨i, j, rfl, rfl, hai, hij, hjb, HI, hRow, hBel⟩ := hrel
    by_cases hlt : i < j
    · have hltz : (i : Int) < (j : Int) := by omega
      obtain ⟨h, hh⟩ : ∃ h, h = (i + j) / 2 := ⟨_, rfl⟩
      have hi1 : i ≤ h := by omega
      have hi2 : h < j := by omega
      have wsum : IntKind.i64.wrap ((i : Int) + (j : Int)) = (i : Int) + (j : Int) := IntWalk.i64_in _ (by omega)
      have hz : ((i : Int) + (j : Int)) / 2 = (h : Int) := by omega
      obtain ⟨y, hy⟩ : ∃ y, R[h - m]? = some y := by
        have := HI0.out.1
        exact ⟨_, List.getElem?_eq_getElem (by omega)⟩
      have gx : (pre ++ (([x] ++ R) ++ post))[a]? = some x := by
        have := get_part pre ([x] ++ R) post (i := 0) (x := x) rfl
        rw [HI0.out.2.1, Nat.add_zero] at this; exact this
      have gy : (pre ++ (([x] ++ R) ++ post))[h]? = some y := by
        have := get_part pre ([x] ++ R) post (i := h - m + 1) (x := y) (by simpa using hy)
        rw [HI0.out.2.1] at this
        rw [show a + (h - m + 1) = h by omega] at this; exact this
      have hg0 := hRow.lt
      have x0 := hRow.c0 gx
      have x1 := hRow.c1 gx
      have x2 := hRow.c2 gx
      have y0 := hRow.c0 gy
      have y1 := hRow.c1 gy
      have y2 := hRow.c2 gy
      have q1 : (h : Int) < (len : Int) := by omega
      have q2 : (a : Int) < (len : Int) := by omega
      have HRow := Lib.hid hRow
      have HBel := Lib.hid hBel
      have HY := Lib.hid hy
      clear gx gy hRow hBel hy hh
      have k0 : ∀ p : Later wr, p.v.cell? ⟨g, a * 3, none⟩ = some (.int .i32 x.r) := fun p => p.c x0 hg0
      have k1 : ∀ p : Later wr, p.v.cell? ⟨g, a * 3 + 1, none⟩ = some (.int .i64 x.k) := fun p => p.c x1 hg0
      have k2 : ∀ p : Later wr, p.v.cell? ⟨g, a * 3 + 2, none⟩ = some (.int .u8 x.c) := fun p => p.c x2 hg0
      have l0 : ∀ p : Later wr, p.v.cell? ⟨g, h * 3, none⟩ = some (.int .i32 y.r) := fun p => p.c y0 hg0
      have l1 : ∀ p : Later wr, p.v.cell? ⟨g, h * 3 + 1, none⟩ = some (.int .i64 y.k) := fun p => p.c y1 hg0
      have l2 : ∀ p : Later wr, p.v.cell? ⟨g, h * 3 + 2, none⟩ = some (.int .u8 y.c) := fun p => p.c y2 hg0
      clear x0 x1 x2 y0 y1 y2
      by_cases hc : ltP y x = true
      · have hcz : decide (cmpP y x < 0) = true := by rw [cmpP_lt, hc]
        have HC := Lib.hid hc
        have hcz2 : cmpP y x < 0 := of_decide_eq_true hcz
        clear hc
        go_wp2_with fail
        refine wp_region_quiet_later (by assumption) (by kernel_rfl) ?_
        repeat (quiet_step ((go_at_call 28; exact Calls.later_of (cmp28 y x _))))
        refine wpQuiet_nil ?_
        rintro _ ⟨p, rfl⟩
        have HRp := Lib.hid (HRow.out.to p.h)
        have HBp := Lib.hid (HBel.out.trans (p.h.mono (Nat.le_trans hB (Nat.le_of_lt hg0))))
        clear k0 k1 k2 l0 l1 l2
        go_wp2
        go_roundw
        case rel =>
          refine ⟨h + 1, j, by go_num, rfl, by omega, by omega, hjb, Lib.hid ⟨fun k z hk hlt => ?_, HI.out.2⟩, HRp.out, HBp.out⟩
          by_cases he : k = h - m
          · subst he
            rw [HY.out] at hk; cases hk; exact HC.out
          · have h1 := srt_get HS.out hk HY.out (by omega)
            cases e : ltP z x
            · have := ltP_ord.trans _ _ _ e h1
              rw [HC.out] at this; cases this
            · rfl
        case measure => simp [intOf]; omega
      · have hc' : ltP y x = false := by simpa using hc
        have hcz : decide (cmpP y x < 0) = false := by rw [cmpP_lt, hc']
        have HC := Lib.hid hc'
        have hcz2 : ¬ cmpP y x < 0 := of_decide_eq_false hcz
        clear hc hc'
        go_wp2_with fail
        refine wp_region_quiet_later (by assumption) (by kernel_rfl) ?_
        repeat (quiet_step ((go_at_call 28; exact Calls.later_of (cmp28 y x _))))
        refine wpQuiet_nil ?_
        rintro _ ⟨p, rfl⟩
        have HRp := Lib.hid (HRow.out.to p.h)
        have HBp := Lib.hid (HBel.out.trans (p.h.mono (Nat.le_trans hB (Nat.le_of_lt hg0))))
        clear k0 k1 k2 l0 l1 l2
        go_wp2
        go_roundw
        case rel =>
          refine ⟨i, h, rfl, rfl, hai, hi1, by omega, Lib.hid ⟨HI.out.1, fun k z hk hlt => ?_⟩, HRp.out, HBp.out⟩
          by_cases he : k = h - m
          · subst he
            rw [HY.out] at hk; cases hk; exact HC.out
          · exact ltP_ord.trans _ _ _ HC.out (srt_get HS.out HY.out hk (by omega))
        case measure => simp [intOf]; omega
    · have hltz : ¬ (i : Int) < (j : Int) := by omega
      obtain rfl : i = j := by omega
      obtain ⟨R1, R2, HR12⟩ : ∃ R1 R2, Hid (R = R1 ++ R2 ∧ R1.length + m = i ∧ SM.mrg ltP [x] R = R1 ++ x :: R2) := by
        have hl := HI0.out.1
        refine ⟨R.take (i - m), R.drop (i - m), Lib.hid ⟨by simp, by rw [List.length_take]; omega, ?_⟩⟩
        conv => lhs; rw [← List.take_append_drop (i - m) R]
        refine SM.mrg_first (fun y hy => ?_) (fun y hy => ?_)
        · obtain ⟨k, hk⟩ := List.getElem?_of_mem hy
          have hkl := (List.getElem?_eq_some_iff.1 hk).1
          rw [List.length_take] at hkl
          rw [List.getElem?_take_of_lt (by omega)] at hk
          exact HI.out.1 k y hk (by omega)
        · obtain ⟨k, hk⟩ := List.getElem?_of_mem hy
          rw [List.getElem?_drop] at hk
          exact HI.out.2 _ y hk (by omega)
      have HRow := Lib.hid hRow
      have HBel := Lib.hid hBel
      have wi : IntKind.i64.wrap ((i : Int) - 1) = (i : Int) - 1 := IntWalk.i64_in _ (by omega)
      clear hRow hBel hlt HI
      go_wp2
      obtain ⟨wo, rfl⟩ : ∃ wo : World, wo = wr := ⟨_, rfl⟩
      go_loopw [13] (fun kv wr => ∃ (k : Nat) (Ra Rb : List Pl), kv = .int .i64 k ∧ a ≤ k ∧ k + 1 ≤ i ∧ Hid (R1 = Ra ++ Rb ∧ Ra.length + a = k) ∧ Row wr g rest ((pre ++ Ra) ++ x :: (Rb ++ (R2 ++ post))) ∧ Below B w wr) (fun k _ => i - (intOf k).toNat)
      case atStart =>
        refine ⟨a, [], R1, rfl, Nat.le_refl _, by omega, Lib.hid ⟨rfl, by simp⟩, ?_, HBel.out⟩
        have := HRow.out
        rw [HR12.out.1] at this
        simpa using this
      case round =>
        obtain ⟨k, Ra, Rb, rfl, hak, hki, HK, hRow, hBel⟩ := hrel
        by_cases hlt : k + 1 < i
        · have hltz2 : (k : Int) < (i : Int) - 1 := by omega
          obtain ⟨y, Rb, rfl⟩ : ∃ y l, Rb = y :: l := by
            cases Rb with
            | nil => have h1 := HK.out; have h2 := HR12.out.2.1; rw [h1.1] at h2; simp at h2; omega
            | cons y l => exact ⟨y, l, rfl⟩
          have hPl : (pre ++ Ra).length = k := by have := HK.out.2; have := HI0.out.2.1; rw [List.length_append]; omega
          have gx := get_mid (pre ++ Ra) ([] ++ y :: (Rb ++ (R2 ++ post))) x
          have gy := get_two (pre ++ Ra) [] (Rb ++ (R2 ++ post)) x y
          rw [hPl] at gx
          simp only [List.length_nil, Nat.add_zero] at gy
          rw [hPl] at gy
          have hRow' : Row wr g rest ((pre ++ Ra) ++ x :: ([] ++ y :: (Rb ++ (R2 ++ post)))) := hRow
          have x0 := hRow'.c0 gx
          have x1 := hRow'.c1 gx
          have x2 := hRow'.c2 gx
          have y0 := hRow'.c0 gy
          have y1 := hRow'.c1 gy
          have y2 := hRow'.c2 gy
          have fx0 := hRow'.f (k * 3)
          have fx1 := hRow'.f (k * 3 + 1)
          have fx2 := hRow'.f (k * 3 + 2)
          have fy0 := hRow'.f ((k + 1) * 3)
          have fy1 := hRow'.f ((k + 1) * 3 + 1)
          have fy2 := hRow'.f ((k + 1) * 3 + 2)
          have HRow2 := Lib.hid hRow'
          have HBel2 := Lib.hid hBel
          have HPl := Lib.hid hPl
          have wk : IntKind.i64.wrap ((k : Int) + 1) = (k : Int) + 1 := IntWalk.i64_in _ (by omega)
          have q1 : (k : Int) + 1 < (len : Int) := by omega
          have q2 : (k : Int) < (len : Int) := by omega
          have q3 : (0 : Int) ≤ (k : Int) + 1 := by omega
          have q4 : ((k : Int) + 1).toNat = k + 1 := by omega
          clear gx gy hRow hRow' hBel hPl
          have z0 : ((((wr.setCell ⟨g, k * 3, none⟩ (.int .i32 y.r)).setCell ⟨g, k * 3 + 1, none⟩ (.int .i64 y.k)).setCell ⟨g, k * 3 + 2, none⟩ (.int .u8 y.c)).drew).cell? ⟨g, (k + 1) * 3, none⟩ = some (.int .i32 y.r) := (cell_drew _ _).trans <| far3 y0 (by omega) (by omega) (by omega)
          have z1 : (((((wr.setCell ⟨g, k * 3, none⟩ (.int .i32 y.r)).setCell ⟨g, k * 3 + 1, none⟩ (.int .i64 y.k)).setCell ⟨g, k * 3 + 2, none⟩ (.int .u8 y.c)).setCell ⟨g, (k + 1) * 3, none⟩ (.int .i32 x.r)).drew).cell? ⟨g, (k + 1) * 3 + 1, none⟩ = some (.int .i64 y.k) := (cell_drew _ _).trans <| far1 (far3 y1 (by omega) (by omega) (by omega)) (by omega)
          have z2 : ((((((wr.setCell ⟨g, k * 3, none⟩ (.int .i32 y.r)).setCell ⟨g, k * 3 + 1, none⟩ (.int .i64 y.k)).setCell ⟨g, k * 3 + 2, none⟩ (.int .u8 y.c)).setCell ⟨g, (k + 1) * 3, none⟩ (.int .i32 x.r)).setCell ⟨g, (k + 1) * 3 + 1, none⟩ (.int .i64 x.k)).drew).cell? ⟨g, (k + 1) * 3 + 2, none⟩ = some (.int .u8 y.c) := (cell_drew _ _).trans <| far1 (far1 (far3 y2 (by omega) (by omega) (by omega)) (by omega)) (by omega)
          go_wp2_with fail
          go_region
          all_goals go_wp2
          go_roundw
          case rel =>
            have hsw := (HRow2.out.swap (i := k) (j := k + 1) (by have := HPl.out; simp only [List.length_append, List.length_cons, List.length_nil] at this ⊢; omega) (by have := HPl.out; simp only [List.length_append, List.length_cons, List.length_nil] at this ⊢; omega) x y).drew
            have e2 : ((((pre ++ Ra) ++ x :: ([] ++ y :: (Rb ++ (R2 ++ post)))).set k y).set (k + 1) x) = (pre ++ (Ra ++ [y])) ++ x :: (Rb ++ (R2 ++ post)) := by
              have e3 := two_set (pre ++ Ra) [] (Rb ++ (R2 ++ post)) x y
              rw [HPl.out, List.length_nil, Nat.add_zero] at e3
              rw [e3]; simp
            rw [e2] at hsw
            obtain ⟨h1, h2⟩ := HK.out
            exact ⟨k + 1, Ra ++ [y], Rb, by go_num, by omega, by omega, Lib.hid ⟨by rw [h1]; simp, by simp; omega⟩, hsw, (bel_set6 HBel2.out hB _ _ _ _ _ _ _ _ _ _ _ _).drew⟩
          case measure => simp [intOf]; omega
        · have hltz2 : ¬ (k : Int) < (i : Int) - 1 := by omega
          have HF : Hid (Row wr g rest (pre ++ (SM.mrg ltP [x] R ++ post))) := Lib.hid (by
            obtain ⟨h1, h2⟩ := HK.out
            obtain ⟨h3, h4, h5⟩ := HR12.out
            have hl : Rb.length = 0 := by rw [h1, List.length_append] at h4; omega
            have := List.eq_nil_of_length_eq_zero hl
            subst this
            rw [h5]
            rw [List.append_nil] at h1
            subst h1
            simpa using hRow)
          have HBel2 := Lib.hid hBel
          clear hRow hBel
          go_wp2
          exact bodyPost_ret (v := .tuple #[]) (by simp [results, Tryz.results88, go_sem]) rfl ⟨rfl, HF.out, HBel2.out⟩
end Go.Proofs.YtbclodbneonipaaGreat
