import Derived.Test.YtlpkcpacfldfaaaGreatGH
import Derived.Test.YtlpkcpacfldfaaaGreatTK
import Derived.OwnWalk
namespace Go.Proofs.YtlpkcpacfldfaaaGreat
open Go.RowKit N
theorem srt_get {l : List Pl} (h : SM.Srt ltP l) {i j : Nat} {x y : Pl} (hx : l[i]? = some x) (hy : l[j]? = some y) (hij : i < j) : ltP y x = false := by
  obtain ⟨h1, rfl⟩ := List.getElem?_eq_some_iff.1 hx
  obtain ⟨h2, rfl⟩ := List.getElem?_eq_some_iff.1 hy
  exact List.pairwise_iff_getElem.1 h i j h1 h2 hij
theorem get_part (pre L post : List Pl) {i : Nat} {x : Pl} (h : L[i]? = some x) : (pre ++ (L ++ post))[pre.length + i]? = some x := by
  rw [List.getElem?_append_right (by omega), Nat.add_sub_cancel_left, List.getElem?_append_left (List.getElem?_eq_some_iff.1 h).1]
  exact h
set_option maxRecDepth 100000 in
set_option maxHeartbeats 8000000 in
theorem sym_first (g : Nat) (rest : List Value) (len cap : Nat) (pre : List Pl) (x : Pl) (R post : List Pl) (w : World) (B : Nat) (hB : B ≤ g) (hR : Row w g rest (pre ++ (([x] ++ R) ++ post))) (hlen : (pre ++ (([x] ++ R) ++ post)).length = len) (hmax : len ≤ 35184372088320) (hS : SM.Srt ltP R) (a m b : Nat) (ha : pre.length = a) (hm : m = a + 1) (hb : m + R.length = b) :
    Calls Tryz.prog 184 #[.slice (some ⟨g, 0, none⟩) len cap, .int .i64 a, .int .i64 m, .int .i64 b, CMP] w fun e w' => e = .returned (.tuple #[]) ∧ Row w' g rest (pre ++ (SM.mrg ltP [x] R ++ post)) ∧ Below B w w' := by
  have hlen' : pre.length + 1 + R.length + post.length = len := by rw [← hlen]; simp; omega
  have b1 : b ≤ len := by omega
  have b2 : m ≤ b := by omega
  have am : a + 1 ≤ m := by omega
  have ma : m ≤ a + 1 := by omega
  have HI0 : Hid (R.length = b - m ∧ pre.length = a ∧ pre.length + 1 + R.length + post.length = len) := Lib.hid ⟨by omega, ha, hlen'⟩
  have HR0 := Lib.hid hR
  have HS := Lib.hid hS
  have hm0 : Tryz.prog.follows .mixedOrders = true := by kernel_rfl
  have wz : IntKind.i64.wrap ((m : Int) - (a : Int)) = 1 := by rw [show (m : Int) - (a : Int) = 1 by omega]; rfl
  have wz2 : (m : Int) - (a : Int) = 1 := by omega
  clear hlen hlen' hR ha hb hS hm
  unfold CMP
  go_enter Tryz.func184, Tryz.ntmps184
  go_wp2
  go_loopw [10, 11] (fun iv jv wr => ∃ (i j : Nat), iv = .int .i64 i ∧ jv = .int .i64 j ∧ m ≤ i ∧ i ≤ j ∧ j ≤ b ∧ Hid ((∀ k y, R[k]? = some y → k + m < i → ltP y x = true) ∧ (∀ k y, R[k]? = some y → j ≤ k + m → ltP y x = false)) ∧ Row wr g rest (pre ++ (([x] ++ R) ++ post)) ∧ Below B w wr) (fun i j _ => (intOf j).toNat - (intOf i).toNat)
  case atStart =>
    obtain ⟨h1, h2, h3⟩ := HI0.out
    refine ⟨m, b, rfl, rfl, Nat.le_refl _, b2, Nat.le_refl _, Lib.hid ⟨fun k y _ h => by omega, fun k y hk h => ?_⟩, HR0.out, Below.refl _ _⟩
    have := (List.getElem?_eq_some_iff.1 hk).1
    omega
  case round =>
    obtain ⟨i, j, rfl, rfl, hai, hij, hjb, HI, hRow, hBel⟩ := hrel
    by_cases hlt : i < j
    · have hltz : (i : Int) < (j : Int) := by omega
      obtain ⟨h, hh⟩ : ∃ h, h = (i + j) / 2 := ⟨_, rfl⟩
      have hi1 : i ≤ h := by omega
      have hi2 : h < j := by omega
      have wsum : IntKind.i64.wrap ((i : Int) + (j : Int)) = (i : Int) + (j : Int) := IntWalk.i64_in _ (by omega)
      have hz : ((i : Int) + (j : Int)) / 2 = (h : Int) := by omega
      obtain ⟨y, hy⟩ : ∃ y, R[h - m]? = some y := by
        have := HI0.out.1
        exact ⟨_, List.getElem?_eq_getElem (by omega)⟩
      have gx : (pre ++ (([x] ++ R) ++ post))[a]? = some x := by
        have := get_part pre ([x] ++ R) post (i := 0) (x := x) rfl
        rw [HI0.out.2.1, Nat.add_zero] at this; exact this
      have gy : (pre ++ (([x] ++ R) ++ post))[h]? = some y := by
        have := get_part pre ([x] ++ R) post (i := h - m + 1) (x := y) (by simpa using hy)
        rw [HI0.out.2.1] at this
        rw [show a + (h - m + 1) = h by omega] at this; exact this
      have hg0 := hRow.lt
      have x0 := hRow.c0 gx
      have x1 := hRow.c1 gx
      have x2 := hRow.c2 gx
      have y0 := hRow.c0 gy
      have y1 := hRow.c1 gy
      have y2 := hRow.c2 gy
      have q1 : (h : Int) < (len : Int) := by omega
      have q2 : (a : Int) < (len : Int) := by omega
      have HRow := Lib.hid hRow
      have HBel := Lib.hid hBel
      have HY := Lib.hid hy
      clear gx gy hRow hBel hy hh
      have k0 : ∀ p : Later wr, p.v.cell? ⟨g, a * 3, none⟩ = some (.int .i32 x.r) := fun p => p.c x0 hg0
      have k1 : ∀ p : Later wr, p.v.cell? ⟨g, a * 3 + 1, none⟩ = some (.int .i64 x.k) := fun p => p.c x1 hg0
      have k2 : ∀ p : Later wr, p.v.cell? ⟨g, a * 3 + 2, none⟩ = some (.int .u8 x.c) := fun p => p.c x2 hg0
      have l0 : ∀ p : Later wr, p.v.cell? ⟨g, h * 3, none⟩ = some (.int .i32 y.r) := fun p => p.c y0 hg0
      have l1 : ∀ p : Later wr, p.v.cell? ⟨g, h * 3 + 1, none⟩ = some (.int .i64 y.k) := fun p => p.c y1 hg0
      have l2 : ∀ p : Later wr, p.v.cell? ⟨g, h * 3 + 2, none⟩ = some (.int .u8 y.c) := fun p => p.c y2 hg0
      clear x0 x1 x2 y0 y1 y2
      by_cases hc : ltP y x = true
      · have hcz : decide (cmpP y x < 0) = true := by rw [cmpP_lt, hc]
        have HC := Lib.hid hc
        have hcz2 : cmpP y x < 0 := of_decide_eq_true hcz
        clear hc
        go_wp2_with fail
        refine wp_region_quiet_later (by assumption) (by kernel_rfl) ?_
        repeat (quiet_step ((go_at_call 52; exact Calls.later_of (cmp28 y x _))))
        refine wpQuiet_nil ?_
        rintro _ ⟨p, rfl⟩
        have HRp := Lib.hid (HRow.out.to p.h)
        have HBp := Lib.hid (HBel.out.trans (p.h.mono (Nat.le_trans hB (Nat.le_of_lt hg0))))
        clear k0 k1 k2 l0 l1 l2
        go_wp2
        go_roundw
        case rel =>
          refine ⟨h + 1, j, by go_num, rfl, by omega, by omega, hjb, Lib.hid ⟨fun k z hk hlt => ?_, HI.out.2⟩, HRp.out, HBp.out⟩
          by_cases he : k = h - m
          · subst he
            rw [HY.out] at hk; cases hk; exact HC.out
          · have h1 := srt_get HS.out hk HY.out (by omega)
            cases e : ltP z x
            · have := ltP_ord.trans _ _ _ e h1
              rw [HC.out] at this; cases this
            · rfl
        case measure => simp [intOf]; omega
      · have hc' : ltP y x = false := by simpa using hc
        have hcz : decide (cmpP y x < 0) = false := by rw [cmpP_lt, hc']
        have HC := Lib.hid hc'
        have hcz2 : ¬ cmpP y x < 0 := of_decide_eq_false hcz
        clear hc hc'
        go_wp2_with fail
        refine wp_region_quiet_later (by assumption) (by kernel_rfl) ?_
        repeat (quiet_step ((go_at_call 52; exact Calls.later_of (cmp28 y x _))))
        refine wpQuiet_nil ?_
        rintro _ ⟨p, rfl⟩
        have HRp := Lib.hid (HRow.out.to p.h)
        have HBp := Lib.hid (HBel.out.trans (p.h.mono (Nat.le_trans hB (Nat.le_of_lt hg0))))
        clear k0 k1 k2 l0 l1 l2
        go_wp2
        go_roundw
        case rel =>
          refine ⟨i, h, rfl, rfl, hai, hi1, by omega, Lib.hid ⟨HI.out.1, fun k z hk hlt => ?_⟩, HRp.out, HBp.out⟩
          by_cases he : k = h - m
          · subst he
            rw [HY.out] at hk; cases hk; exact HC.out
          · exact ltP_ord.trans _ _ _ HC.out (srt_get HS.out HY.out hk (by omega))
        case measure => simp [intOf]; omega
    · have hltz : ¬ (i : Int) < (j : Int) := by omega
      obtain rfl : i = j := by omega
      obtain ⟨R1, R2, HR12⟩ : ∃ R1 R2, Hid (R = R1 ++ R2 ∧ R1.length + m = i ∧ SM.mrg ltP [x] R = R1 ++ x :: R2) := by
        have hl := HI0.out.1
        refine ⟨R.take (i - m), R.drop (i - m), Lib.hid ⟨by simp, by rw [List.length_take]; omega, ?_⟩⟩
        conv => lhs; rw [← List.take_append_drop (i - m) R]
        refine SM.mrg_first (fun y hy => ?_) (fun y hy => ?_)
        · obtain ⟨k, hk⟩ := List.getElem?_of_mem hy
          have hkl := (List.getElem?_eq_some_iff.1 hk).1
          rw [List.length_take] at hkl
          rw [List.getElem?_take_of_lt (by omega)] at hk
          exact HI.out.1 k y hk (by omega)
        · obtain ⟨k, hk⟩ := List.getElem?_of_mem hy
          rw [List.getElem?_drop] at hk
          exact HI.out.2 _ y hk (by omega)
      have HRow := Lib.hid hRow
      have HBel := Lib.hid hBel
      have wi : IntKind.i64.wrap ((i : Int) - 1) = (i : Int) - 1 := IntWalk.i64_in _ (by omega)
      clear hRow hBel hlt HI
      go_wp2
      obtain ⟨wo, rfl⟩ : ∃ wo : World, wo = wr := ⟨_, rfl⟩
      go_loopw [13] (fun kv wr => ∃ (k : Nat) (Ra Rb : List Pl), kv = .int .i64 k ∧ a ≤ k ∧ k + 1 ≤ i ∧ Hid (R1 = Ra ++ Rb ∧ Ra.length + a = k) ∧ Row wr g rest ((pre ++ Ra) ++ x :: (Rb ++ (R2 ++ post))) ∧ Below B w wr) (fun k _ => i - (intOf k).toNat)
      case atStart =>
        refine ⟨a, [], R1, rfl, Nat.le_refl _, by omega, Lib.hid ⟨rfl, by simp⟩, ?_, HBel.out⟩
        have := HRow.out
        rw [HR12.out.1] at this
        simpa using this
      case round =>
        obtain ⟨k, Ra, Rb, rfl, hak, hki, HK, hRow, hBel⟩ := hrel
        by_cases hlt : k + 1 < i
        · have hltz2 : (k : Int) < (i : Int) - 1 := by omega
          obtain ⟨y, Rb, rfl⟩ : ∃ y l, Rb = y :: l := by
            cases Rb with
            | nil => have h1 := HK.out; have h2 := HR12.out.2.1; rw [h1.1] at h2; simp at h2; omega
            | cons y l => exact ⟨y, l, rfl⟩
          have hPl : (pre ++ Ra).length = k := by have := HK.out.2; have := HI0.out.2.1; rw [List.length_append]; omega
          have gx := get_mid (pre ++ Ra) ([] ++ y :: (Rb ++ (R2 ++ post))) x
          have gy := get_two (pre ++ Ra) [] (Rb ++ (R2 ++ post)) x y
          rw [hPl] at gx
          simp only [List.length_nil, Nat.add_zero] at gy
          rw [hPl] at gy
          have hRow' : Row wr g rest ((pre ++ Ra) ++ x :: ([] ++ y :: (Rb ++ (R2 ++ post)))) := hRow
          have x0 := hRow'.c0 gx
          have x1 := hRow'.c1 gx
          have x2 := hRow'.c2 gx
          have y0 := hRow'.c0 gy
          have y1 := hRow'.c1 gy
          have y2 := hRow'.c2 gy
          have fx0 := hRow'.f (k * 3)
          have fx1 := hRow'.f (k * 3 + 1)
          have fx2 := hRow'.f (k * 3 + 2)
          have fy0 := hRow'.f ((k + 1) * 3)
          have fy1 := hRow'.f ((k + 1) * 3 + 1)
          have fy2 := hRow'.f ((k + 1) * 3 + 2)
          have HRow2 := Lib.hid hRow'
          have HBel2 := Lib.hid hBel
          have HPl := Lib.hid hPl
          have wk : IntKind.i64.wrap ((k : Int) + 1) = (k : Int) + 1 := IntWalk.i64_in _ (by omega)
          have q1 : (k : Int) + 1 < (len : Int) := by omega
          have q2 : (k : Int) < (len : Int) := by omega
          have q3 : (0 : Int) ≤ (k : Int) + 1 := by omega
          have q4 : ((k : Int) + 1).toNat = k + 1 := by omega
          clear gx gy hRow hRow' hBel hPl
          have z0 : ((((wr.setCell ⟨g, k * 3, none⟩ (.int .i32 y.r)).setCell ⟨g, k * 3 + 1, none⟩ (.int .i64 y.k)).setCell ⟨g, k * 3 + 2, none⟩ (.int .u8 y.c)).drew).cell? ⟨g, (k + 1) * 3, none⟩ = some (.int .i32 y.r) := (cell_drew _ _).trans <| far3 y0 (by omega) (by omega) (by omega)
          have z1 : (((((wr.setCell ⟨g, k * 3, none⟩ (.int .i32 y.r)).setCell ⟨g, k * 3 + 1, none⟩ (.int .i64 y.k)).setCell ⟨g, k * 3 + 2, none⟩ (.int .u8 y.c)).setCell ⟨g, (k + 1) * 3, none⟩ (.int .i32 x.r)).drew).cell? ⟨g, (k + 1) * 3 + 1, none⟩ = some (.int .i64 y.k) := (cell_drew _ _).trans <| far1 (far3 y1 (by omega) (by omega) (by omega)) (by omega)
          have z2 : ((((((wr.setCell ⟨g, k * 3, none⟩ (.int .i32 y.r)).setCell ⟨g, k * 3 + 1, none⟩ (.int .i64 y.k)).setCell ⟨g, k * 3 + 2, none⟩ (.int .u8 y.c)).setCell ⟨g, (k + 1) * 3, none⟩ (.int .i32 x.r)).setCell ⟨g, (k + 1) * 3 + 1, none⟩ (.int .i64 x.k)).drew).cell? ⟨g, (k + 1) * 3 + 2, none⟩ = some (.int .u8 y.c) := (cell_drew _ _).trans <| far1 (far1 (far3 y2 (by omega) (by omega) (by omega)) (by omega)) (by omega)
          go_wp2_with fail
          go_region
          all_goals go_wp2
          go_roundw
          case rel =>
            have hsw := (HRow2.out.swap (i := k) (j := k + 1) (by have := HPl.out; simp only [List.length_append, List.length_cons, List.length_nil] at this ⊢; omega) (by have := HPl.out; simp only [List.length_append, List.length_cons, List.length_nil] at this ⊢; omega) x y).drew
            have e2 : ((((pre ++ Ra) ++ x :: ([] ++ y :: (Rb ++ (R2 ++ post)))).set k y).set (k + 1) x) = (pre ++ (Ra ++ [y])) ++ x :: (Rb ++ (R2 ++ post)) := by
              have e3 := two_set (pre ++ Ra) [] (Rb ++ (R2 ++ post)) x y
              rw [HPl.out, List.length_nil, Nat.add_zero] at e3
              rw [e3]; simp
            rw [e2] at hsw
            obtain ⟨h1, h2⟩ := HK.out
            exact ⟨k + 1, Ra ++ [y], Rb, by go_num, by omega, by omega, Lib.hid ⟨by rw [h1]; simp, by simp; omega⟩, hsw, (bel_set6 HBel2.out hB _ _ _ _ _ _ _ _ _ _ _ _).drew⟩
          case measure => simp [intOf]; omega
        · have hltz2 : ¬ (k : Int) < (i : Int) - 1 := by omega
          have HF : Hid (Row wr g rest (pre ++ (SM.mrg ltP [x] R ++ post))) := Lib.hid (by
            obtain ⟨h1, h2⟩ := HK.out
            obtain ⟨h3, h4, h5⟩ := HR12.out
            have hl : Rb.length = 0 := by rw [h1, List.length_append] at h4; omega
            have := List.eq_nil_of_length_eq_zero hl
            subst this
            rw [h5]
            rw [List.append_nil] at h1
            subst h1
            simpa using hRow)
          have HBel2 := Lib.hid hBel
          clear hRow hBel
          go_wp2
          exact bodyPost_ret (v := .tuple #[]) (by simp [results, Tryz.results184, go_sem]) rfl ⟨rfl, HF.out, HBel2.out⟩
end Go.Proofs.YtlpkcpacfldfaaaGreat
namespace Go.Proofs.YtlpkcpacfldfaaaGreat
open Go.RowKit N
set_option maxRecDepth 100000 in
set_option maxHeartbeats 8000000 in
theorem sym_last (g : Nat) (rest : List Value) (len cap : Nat) (pre : List Pl) (L : List Pl) (y : Pl) (post : List Pl) (w : World) (B : Nat) (hB : B ≤ g) (hR : Row w g rest (pre ++ ((L ++ [y]) ++ post))) (hlen : (pre ++ ((L ++ [y]) ++ post)).length = len) (hmax : len ≤ 35184372088320) (hS : SM.Srt ltP L) (hL1 : L.length ≠ 1) (a m b : Nat) (ha : pre.length = a) (hm : a + L.length = m) (hb : b = m + 1) :
    Calls Tryz.prog 184 #[.slice (some ⟨g, 0, none⟩) len cap, .int .i64 a, .int .i64 m, .int .i64 b, CMP] w fun e w' => e = .returned (.tuple #[]) ∧ Row w' g rest (pre ++ (SM.mrg ltP L [y] ++ post)) ∧ Below B w w' := by
  have hlen' : pre.length + L.length + 1 + post.length = len := by rw [← hlen]; simp; omega
  have b1 : b ≤ len := by omega
  have b2 : a ≤ m := by omega
  have mb : m + 1 ≤ b := by omega
  have bm : b ≤ m + 1 := by omega
  have HI0 : Hid (L.length = m - a ∧ pre.length = a ∧ pre.length + L.length + 1 + post.length = len) := Lib.hid ⟨by omega, ha, hlen'⟩
  have HR0 := Lib.hid hR
  have HS := Lib.hid hS
  have hm0 : Tryz.prog.follows .mixedOrders = true := by kernel_rfl
  have wz : IntKind.i64.wrap ((m : Int) - (a : Int)) = (m : Int) - (a : Int) := IntWalk.i64_in _ (by omega)
  have wz2 : ((m : Int) - (a : Int) == 1) = false := by simp; omega
  have wy : IntKind.i64.wrap ((b : Int) - (m : Int)) = 1 := by rw [show (b : Int) - (m : Int) = 1 by omega]; rfl
  have wy2 : (b : Int) - (m : Int) = 1 := by omega
  clear hlen hlen' hR ha hb hS hm hL1
  unfold CMP
  go_enter Tryz.func184, Tryz.ntmps184
  go_wp2
  go_loopw [14, 15] (fun iv jv wr => ∃ (i j : Nat), iv = .int .i64 i ∧ jv = .int .i64 j ∧ a ≤ i ∧ i ≤ j ∧ j ≤ m ∧ Hid ((∀ k z, L[k]? = some z → k + a < i → ltP y z = false) ∧ (∀ k z, L[k]? = some z → j ≤ k + a → ltP y z = true)) ∧ Row wr g rest (pre ++ ((L ++ [y]) ++ post)) ∧ Below B w wr) (fun i j _ => (intOf j).toNat - (intOf i).toNat)
  case atStart =>
    obtain ⟨h1, h2, h3⟩ := HI0.out
    refine ⟨a, m, rfl, rfl, Nat.le_refl _, b2, Nat.le_refl _, Lib.hid ⟨fun k z _ h => by omega, fun k z hk h => ?_⟩, HR0.out, Below.refl _ _⟩
    have := (List.getElem?_eq_some_iff.1 hk).1
    omega
  case round =>
    obtain ⟨i, j, rfl, rfl, hai, hij, hjb, HI, hRow, hBel⟩ := hrel
    by_cases hlt : i < j
    · have hltz : (i : Int) < (j : Int) := by omega
      obtain ⟨h, hh⟩ : ∃ h, h = (i + j) / 2 := ⟨_, rfl⟩
      have hi1 : i ≤ h := by omega
      have hi2 : h < j := by omega
      have wsum : IntKind.i64.wrap ((i : Int) + (j : Int)) = (i : Int) + (j : Int) := IntWalk.i64_in _ (by omega)
      have hz : ((i : Int) + (j : Int)) / 2 = (h : Int) := by omega
      obtain ⟨x, hx⟩ : ∃ x, L[h - a]? = some x := by
        have := HI0.out.1
        exact ⟨_, List.getElem?_eq_getElem (by omega)⟩
      have gx : (pre ++ ((L ++ [y]) ++ post))[h]? = some x := by
        have := get_part pre (L ++ [y]) post (i := h - a) (x := x) (by rw [List.getElem?_append_left (List.getElem?_eq_some_iff.1 hx).1]; exact hx)
        rw [HI0.out.2.1, show a + (h - a) = h by omega] at this; exact this
      have gy : (pre ++ ((L ++ [y]) ++ post))[m]? = some y := by
        have := get_part pre (L ++ [y]) post (i := L.length) (x := y) (by simp)
        have h1 := HI0.out.1
        rw [HI0.out.2.1, show a + L.length = m by omega] at this; exact this
      have hg0 := hRow.lt
      have x0 := hRow.c0 gx
      have x1 := hRow.c1 gx
      have x2 := hRow.c2 gx
      have y0 := hRow.c0 gy
      have y1 := hRow.c1 gy
      have y2 := hRow.c2 gy
      have q1 : (h : Int) < (len : Int) := by omega
      have q2 : (m : Int) < (len : Int) := by omega
      have HRow := Lib.hid hRow
      have HBel := Lib.hid hBel
      have HX := Lib.hid hx
      clear gx gy hRow hBel hx hh
      have k0 : ∀ p : Later wr, p.v.cell? ⟨g, h * 3, none⟩ = some (.int .i32 x.r) := fun p => p.c x0 hg0
      have k1 : ∀ p : Later wr, p.v.cell? ⟨g, h * 3 + 1, none⟩ = some (.int .i64 x.k) := fun p => p.c x1 hg0
      have k2 : ∀ p : Later wr, p.v.cell? ⟨g, h * 3 + 2, none⟩ = some (.int .u8 x.c) := fun p => p.c x2 hg0
      have l0 : ∀ p : Later wr, p.v.cell? ⟨g, m * 3, none⟩ = some (.int .i32 y.r) := fun p => p.c y0 hg0
      have l1 : ∀ p : Later wr, p.v.cell? ⟨g, m * 3 + 1, none⟩ = some (.int .i64 y.k) := fun p => p.c y1 hg0
      have l2 : ∀ p : Later wr, p.v.cell? ⟨g, m * 3 + 2, none⟩ = some (.int .u8 y.c) := fun p => p.c y2 hg0
      clear x0 x1 x2 y0 y1 y2
      by_cases hc : ltP y x = true
      · have hcz : decide (cmpP y x < 0) = true := by rw [cmpP_lt, hc]
        have HC := Lib.hid hc
        have hcz2 : cmpP y x < 0 := of_decide_eq_true hcz
        clear hc
        go_wp2_with fail
        refine wp_region_quiet_later (by assumption) (by kernel_rfl) ?_
        repeat (quiet_step ((go_at_call 52; exact Calls.later_of (cmp28 y x _))))
        refine wpQuiet_nil ?_
        rintro _ ⟨p, rfl⟩
        have HRp := Lib.hid (HRow.out.to p.h)
        have HBp := Lib.hid (HBel.out.trans (p.h.mono (Nat.le_trans hB (Nat.le_of_lt hg0))))
        clear k0 k1 k2 l0 l1 l2
        go_wp2
        go_roundw
        case rel =>
          refine ⟨i, h, rfl, rfl, hai, hi1, by omega, Lib.hid ⟨HI.out.1, fun k z hk hlt => ?_⟩, HRp.out, HBp.out⟩
          by_cases he : k = h - a
          · subst he
            rw [HX.out] at hk; cases hk; exact HC.out
          · have h1 := srt_get HS.out HX.out hk (by omega)
            cases e : ltP y z
            · have h2 := ltP_ord.trans _ _ _ h1 e
              rw [HC.out] at h2; cases h2
            · rfl
        case measure => simp [intOf]; omega
      · have hc' : ltP y x = false := by simpa using hc
        have hcz : decide (cmpP y x < 0) = false := by rw [cmpP_lt, hc']
        have HC := Lib.hid hc'
        have hcz2 : ¬ cmpP y x < 0 := of_decide_eq_false hcz
        clear hc hc'
        go_wp2_with fail
        refine wp_region_quiet_later (by assumption) (by kernel_rfl) ?_
        repeat (quiet_step ((go_at_call 52; exact Calls.later_of (cmp28 y x _))))
        refine wpQuiet_nil ?_
        rintro _ ⟨p, rfl⟩
        have HRp := Lib.hid (HRow.out.to p.h)
        have HBp := Lib.hid (HBel.out.trans (p.h.mono (Nat.le_trans hB (Nat.le_of_lt hg0))))
        clear k0 k1 k2 l0 l1 l2
        go_wp2
        go_roundw
        case rel =>
          refine ⟨h + 1, j, by go_num, rfl, by omega, by omega, hjb, Lib.hid ⟨fun k z hk hlt => ?_, HI.out.2⟩, HRp.out, HBp.out⟩
          by_cases he : k = h - a
          · subst he
            rw [HX.out] at hk; cases hk; exact HC.out
          · exact ltP_ord.trans _ _ _ (srt_get HS.out hk HX.out (by omega)) HC.out
        case measure => simp [intOf]; omega
    · have hltz : ¬ (i : Int) < (j : Int) := by omega
      obtain rfl : i = j := by omega
      obtain ⟨L1, L2, HL12⟩ : ∃ L1 L2, Hid (L = L1 ++ L2 ∧ L1.length + a = i ∧ SM.mrg ltP L [y] = L1 ++ y :: L2) := by
        have hl := HI0.out.1
        refine ⟨L.take (i - a), L.drop (i - a), Lib.hid ⟨by simp, by rw [List.length_take]; omega, ?_⟩⟩
        conv => lhs; rw [← List.take_append_drop (i - a) L]
        refine SM.mrg_one (fun z hy => ?_) (fun z hy => ?_)
        · obtain ⟨k, hk⟩ := List.getElem?_of_mem hy
          have hkl := (List.getElem?_eq_some_iff.1 hk).1
          rw [List.length_take] at hkl
          rw [List.getElem?_take_of_lt (by omega)] at hk
          exact HI.out.1 k z hk (by omega)
        · obtain ⟨k, hk⟩ := List.getElem?_of_mem hy
          rw [List.getElem?_drop] at hk
          exact HI.out.2 _ z hk (by omega)
      have HRow := Lib.hid hRow
      have HBel := Lib.hid hBel
      clear hRow hBel hlt HI
      go_wp2
      obtain ⟨wo, rfl⟩ : ∃ wo : World, wo = wr := ⟨_, rfl⟩
      go_loopw [17] (fun kv wr => ∃ (k : Nat) (La Lb : List Pl), kv = .int .i64 k ∧ i ≤ k ∧ k ≤ m ∧ Hid (L2 = La ++ Lb ∧ La.length + i = k) ∧ Row wr g rest ((pre ++ (L1 ++ La)) ++ y :: (Lb ++ post)) ∧ Below B w wr) (fun k _ => (intOf k).toNat - i)
      case atStart =>
        refine ⟨m, L2, [], rfl, by omega, Nat.le_refl _, Lib.hid ⟨by simp, ?_⟩, ?_, HBel.out⟩
        · obtain ⟨h1, h2, _⟩ := HL12.out
          have h3 := HI0.out.1
          rw [h1, List.length_append] at h3; omega
        · have := HRow.out
          rw [HL12.out.1] at this
          simpa using this
      case round =>
        obtain ⟨k, La, Lb, rfl, hak, hki, HK, hRow, hBel⟩ := hrel
        by_cases hlt : i < k
        · obtain ⟨La, x, rfl⟩ : ∃ A' z, La = A' ++ [z] := by
            have hne : La ≠ [] := by intro e; have := HK.out.2; rw [e] at this; simp at this; omega
            exact ⟨La.dropLast, La.getLast hne, (List.dropLast_concat_getLast hne).symm⟩
          obtain ⟨kp, rfl⟩ : ∃ kp, k = kp + 1 := ⟨k - 1, by omega⟩
          have hltz2 : (i : Int) < (kp : Int) + 1 := by omega
          have hPl : (pre ++ (L1 ++ La)).length = kp := by have h1 := HK.out.2; have h2 := HI0.out.2.1; have h3 := HL12.out.2.1; simp only [List.length_append, List.length_singleton] at h1 ⊢; omega
          have hrw : (pre ++ (L1 ++ (La ++ [x]))) ++ y :: (Lb ++ post) = (pre ++ (L1 ++ La)) ++ x :: ([] ++ y :: (Lb ++ post)) := by simp
          rw [hrw] at hRow
          have gx := get_mid (pre ++ (L1 ++ La)) ([] ++ y :: (Lb ++ post)) x
          have gy := get_two (pre ++ (L1 ++ La)) [] (Lb ++ post) x y
          rw [hPl] at gx
          simp only [List.length_nil, Nat.add_zero] at gy
          rw [hPl] at gy
          have y0 := hRow.c0 gx
          have y1 := hRow.c1 gx
          have y2 := hRow.c2 gx
          have x0 := hRow.c0 gy
          have x1 := hRow.c1 gy
          have x2 := hRow.c2 gy
          have fx0 := hRow.f ((kp + 1) * 3)
          have fx1 := hRow.f ((kp + 1) * 3 + 1)
          have fx2 := hRow.f ((kp + 1) * 3 + 2)
          have fy0 := hRow.f (kp * 3)
          have fy1 := hRow.f (kp * 3 + 1)
          have fy2 := hRow.f (kp * 3 + 2)
          have HRow2 := Lib.hid hRow
          have HBel2 := Lib.hid hBel
          have HPl := Lib.hid hPl
          have wk0 : IntKind.i64.wrap (kp : Int) = (kp : Int) := IntWalk.i64_in _ (by omega)
          have wk : IntKind.i64.wrap ((kp : Int) + 1 - 1) = (kp : Int) := by rw [show (kp : Int) + 1 - 1 = (kp : Int) by omega]; exact wk0
          have q1 : (kp : Int) + 1 < (len : Int) := by omega
          have q2 : (kp : Int) < (len : Int) := by omega
          have q3 : (0 : Int) ≤ (kp : Int) + 1 := by omega
          have q4 : ((kp : Int) + 1).toNat = kp + 1 := by omega
          clear gx gy hRow hBel hPl hrw
          have z0 : ((((wr.setCell ⟨g, (kp + 1) * 3, none⟩ (.int .i32 x.r)).setCell ⟨g, (kp + 1) * 3 + 1, none⟩ (.int .i64 x.k)).setCell ⟨g, (kp + 1) * 3 + 2, none⟩ (.int .u8 x.c)).drew).cell? ⟨g, kp * 3, none⟩ = some (.int .i32 x.r) := (cell_drew _ _).trans <| far3 y0 (by omega) (by omega) (by omega)
          have z1 : (((((wr.setCell ⟨g, (kp + 1) * 3, none⟩ (.int .i32 x.r)).setCell ⟨g, (kp + 1) * 3 + 1, none⟩ (.int .i64 x.k)).setCell ⟨g, (kp + 1) * 3 + 2, none⟩ (.int .u8 x.c)).setCell ⟨g, kp * 3, none⟩ (.int .i32 y.r)).drew).cell? ⟨g, kp * 3 + 1, none⟩ = some (.int .i64 x.k) := (cell_drew _ _).trans <| far1 (far3 y1 (by omega) (by omega) (by omega)) (by omega)
          have z2 : ((((((wr.setCell ⟨g, (kp + 1) * 3, none⟩ (.int .i32 x.r)).setCell ⟨g, (kp + 1) * 3 + 1, none⟩ (.int .i64 x.k)).setCell ⟨g, (kp + 1) * 3 + 2, none⟩ (.int .u8 x.c)).setCell ⟨g, kp * 3, none⟩ (.int .i32 y.r)).setCell ⟨g, kp * 3 + 1, none⟩ (.int .i64 y.k)).drew).cell? ⟨g, kp * 3 + 2, none⟩ = some (.int .u8 x.c) := (cell_drew _ _).trans <| far1 (far1 (far3 y2 (by omega) (by omega) (by omega)) (by omega)) (by omega)
          go_wp2_with fail
          go_region
          all_goals go_wp2
          go_roundw
          case rel =>
            have hsw := (HRow2.out.swap (i := kp + 1) (j := kp) (by have := HPl.out; simp only [List.length_append, List.length_cons, List.length_nil] at this ⊢; omega) (by have := HPl.out; simp only [List.length_append, List.length_cons, List.length_nil] at this ⊢; omega) y x).drew
            have e2 : ((((pre ++ (L1 ++ La)) ++ x :: ([] ++ y :: (Lb ++ post))).set (kp + 1) x).set kp y) = (pre ++ (L1 ++ La)) ++ y :: ((x :: Lb) ++ post) := by
              have e3 := two_set (pre ++ (L1 ++ La)) [] (Lb ++ post) x y
              rw [HPl.out, List.length_nil, Nat.add_zero] at e3
              rw [List.set_comm _ _ (by omega), e3]; rfl
            rw [e2] at hsw
            obtain ⟨h1, h2⟩ := HK.out
            exact ⟨kp, La, x :: Lb, by go_num, by omega, by omega, Lib.hid ⟨by rw [h1]; simp, by simp only [List.length_append, List.length_singleton] at h2; omega⟩, hsw, (bel_set6 HBel2.out hB _ _ _ _ _ _ _ _ _ _ _ _).drew⟩
          case measure => simp [intOf]; omega
        · have hltz2 : ¬ (i : Int) < (k : Int) := by omega
          have HF : Hid (Row wr g rest (pre ++ (SM.mrg ltP L [y] ++ post))) := Lib.hid (by
            obtain ⟨h1, h2⟩ := HK.out
            obtain ⟨h3, h4, h5⟩ := HL12.out
            have := List.eq_nil_of_length_eq_zero (show La.length = 0 by omega)
            subst this
            rw [h5]
            rw [List.nil_append] at h1
            subst h1
            simpa using hRow)
          have HBel2 := Lib.hid hBel
          clear hRow hBel
          go_wp2
          exact bodyPost_ret (v := .tuple #[]) (by simp [results, Tryz.results184, go_sem]) rfl ⟨rfl, HF.out, HBel2.out⟩
end Go.Proofs.YtlpkcpacfldfaaaGreat
namespace Go.Proofs.YtlpkcpacfldfaaaGreat
open Go.RowKit N
/-- what is known when the search has ended: the four parts -/
theorem four_parts {L R : List Pl} (hL : SM.Srt ltP L) (hR : SM.Srt ltP R) {s t : Nat} (hs : s ≤ L.length) (ht : t ≤ R.length)
    (h1 : 0 < s → t < R.length → ∀ x y, L[s - 1]? = some x → R[t]? = some y → ltP y x = false)
    (h2 : s < L.length → 0 < t → ∀ x y, L[s]? = some x → R[t - 1]? = some y → ltP y x = true) :
    SM.mrg ltP L R = SM.mrg ltP (L.take s) (R.take t) ++ SM.mrg ltP (L.drop s) (R.drop t) := by
  conv => lhs; rw [← List.take_append_drop s L, ← List.take_append_drop t R]
  refine SM.cut (fun x hx y hy => ?_) (fun y hy x hx => ?_)
  · obtain ⟨i, hi⟩ := List.getElem?_of_mem hx
    obtain ⟨j, hj⟩ := List.getElem?_of_mem hy
    have hil := (List.getElem?_eq_some_iff.1 hi).1
    rw [List.length_take] at hil
    rw [List.getElem?_take_of_lt (by omega)] at hi
    rw [List.getElem?_drop] at hj
    have hjl := (List.getElem?_eq_some_iff.1 hj).1
    have e1 : L[s - 1]? = some (L[s - 1]'(by omega)) := List.getElem?_eq_getElem (by omega)
    have e2 : R[t]? = some (R[t]'(by omega)) := List.getElem?_eq_getElem (by omega)
    have h0 := h1 (by omega) (by omega) _ _ e1 e2
    have k1 : ltP (L[s - 1]'(by omega)) x = false := by
      by_cases he : i = s - 1
      · subst he; rw [e1] at hi; cases hi
        rcases ltP_ord.total (L[s - 1]'(by omega)) (L[s - 1]'(by omega)) with h | h <;> exact h
      · exact srt_get hL hi e1 (by omega)
    have k2 : ltP y (R[t]'(by omega)) = false := by
      by_cases he : j = 0
      · subst he; rw [Nat.add_zero, e2] at hj; cases hj
        rcases ltP_ord.total (R[t]'(by omega)) (R[t]'(by omega)) with h | h <;> exact h
      · exact srt_get hR e2 hj (by omega)
    exact ltP_ord.trans _ _ _ (ltP_ord.trans _ _ _ k1 h0) k2
  · obtain ⟨i, hi⟩ := List.getElem?_of_mem hx
    obtain ⟨j, hj⟩ := List.getElem?_of_mem hy
    have hjl := (List.getElem?_eq_some_iff.1 hj).1
    rw [List.length_take] at hjl
    rw [List.getElem?_take_of_lt (by omega)] at hj
    rw [List.getElem?_drop] at hi
    have hil := (List.getElem?_eq_some_iff.1 hi).1
    have e1 : L[s]? = some (L[s]'(by omega)) := List.getElem?_eq_getElem (by omega)
    have e2 : R[t - 1]? = some (R[t - 1]'(by omega)) := List.getElem?_eq_getElem (by omega)
    have h0 := h2 (by omega) (by omega) _ _ e1 e2
    have k1 : ltP x (L[s]'(by omega)) = false := by
      by_cases he : i = 0
      · subst he; rw [Nat.add_zero, e1] at hi; cases hi
        rcases ltP_ord.total (L[s]'(by omega)) (L[s]'(by omega)) with h | h <;> exact h
      · exact srt_get hL e1 hi (by omega)
    have k2 : ltP (R[t - 1]'(by omega)) y = false := by
      by_cases he : j = t - 1
      · subst he; rw [e2] at hj; cases hj
        rcases ltP_ord.total (R[t - 1]'(by omega)) (R[t - 1]'(by omega)) with h | h <;> exact h
      · exact srt_get hR hj e2 (by omega)
    cases e : ltP y x
    · -- x <= y <= R[t-1]; L[s] <= x
      have := ltP_ord.trans _ _ _ k1 (ltP_ord.trans _ _ _ e k2)
      rw [h0] at this; cases this
    · rfl
theorem srt_take {l : List Pl} (h : SM.Srt ltP l) (k : Nat) : SM.Srt ltP (l.take k) := List.Pairwise.sublist (List.take_sublist _ _) h
theorem srt_drop {l : List Pl} (h : SM.Srt ltP l) (k : Nat) : SM.Srt ltP (l.drop k) := List.Pairwise.sublist (List.drop_sublist _ _) h
/-- the contract of symMerge for parts of together at most N elements -/
def SymUpTo (N : Nat) : Prop := ∀ (g : Nat) (rest : List Value) (len cap : Nat) (pre L R post : List Pl) (w : World) (B : Nat), L.length + R.length ≤ N → B ≤ g → Row w g rest (pre ++ ((L ++ R) ++ post)) → (pre ++ ((L ++ R) ++ post)).length = len → len ≤ 35184372088320 → SM.Srt ltP L → SM.Srt ltP R → 0 < L.length → 0 < R.length → ∀ (a m b : Int), a = (pre.length : Nat) → m = (pre.length + L.length : Nat) → b = (pre.length + L.length + R.length : Nat) →
    Calls Tryz.prog 184 #[.slice (some ⟨g, 0, none⟩) len cap, .int .i64 a, .int .i64 m, .int .i64 b, CMP] w fun e w' => e = .returned (.tuple #[]) ∧ Row w' g rest (pre ++ (SM.mrg ltP L R ++ post)) ∧ Below B w w'
end Go.Proofs.YtlpkcpacfldfaaaGreat
namespace Go.Proofs.YtlpkcpacfldfaaaGreat
open Go.RowKit N
set_option maxRecDepth 100000 in
set_option maxHeartbeats 16000000 in
theorem sym_small (N : Nat) (ih : SymUpTo N) (g : Nat) (rest : List Value) (len cap : Nat) (pre L R post : List Pl) (w : World) (B : Nat) (hN : L.length + R.length ≤ N + 1) (hB : B ≤ g) (hR : Row w g rest (pre ++ ((L ++ R) ++ post))) (hlen : (pre ++ ((L ++ R) ++ post)).length = len) (hmax : len ≤ 35184372088320) (hSL : SM.Srt ltP L) (hSR : SM.Srt ltP R) (hL : 2 ≤ L.length) (hRl : 2 ≤ R.length) (a m b mid n lo : Nat) (ha : pre.length = a) (hm : a + L.length = m) (hb : m + R.length = b) (hmid : mid = (a + b) / 2) (hn : n = mid + m) (hlo : lo = a) (hcase : m ≤ mid) :
    Calls Tryz.prog 184 #[.slice (some ⟨g, 0, none⟩) len cap, .int .i64 a, .int .i64 m, .int .i64 b, CMP] w fun e w' => e = .returned (.tuple #[]) ∧ Row w' g rest (pre ++ (SM.mrg ltP L R ++ post)) ∧ Below B w w' := by
  have hlen' : pre.length + L.length + R.length + post.length = len := by rw [← hlen]; simp; omega
  have b1 : b ≤ len := by omega
  have b2 : a + 2 ≤ m := by omega
  have b3 : m + 2 ≤ b := by omega
  have f0 : a ≤ lo ∧ lo ≤ m ∧ m ≤ m ∧ m ≤ mid ∧ n ≤ lo + b ∧ m + m ≤ n ∧ a ≤ mid ∧ mid ≤ b ∧ n ≤ mid + m ∧ mid + m ≤ n := by omega
  obtain ⟨f1, f2, f3, f4, f5, f6, f7, f8, f9, f10⟩ := f0
  have HI0 : Hid (L.length = m - a ∧ R.length = b - m ∧ pre.length = a ∧ pre.length + L.length + R.length + post.length = len ∧ lo = a ∧ L.length + R.length ≤ N + 1 ∧ (pre ++ ((L ++ R) ++ post)).length = len) := Lib.hid ⟨by omega, by omega, ha, hlen', hlo, hN, hlen⟩
  have HR0 := Lib.hid hR
  have HSL := Lib.hid hSL
  have HSR := Lib.hid hSR
  have IH := Lib.hid ih
  have hm0 : Tryz.prog.follows .mixedOrders = true := by kernel_rfl
  have wz : IntKind.i64.wrap ((m : Int) - (a : Int)) = (m : Int) - (a : Int) := IntWalk.i64_in _ (by omega)
  have wz2 : ((m : Int) - (a : Int) == 1) = false := by simp; omega
  have wy : IntKind.i64.wrap ((b : Int) - (m : Int)) = (b : Int) - (m : Int) := IntWalk.i64_in _ (by omega)
  have wy2 : ((b : Int) - (m : Int) == 1) = false := by simp; omega
  have wab : IntKind.i64.wrap ((a : Int) + (b : Int)) = (a : Int) + (b : Int) := IntWalk.i64_in _ (by omega)
  have hz : ((a : Int) + (b : Int)) / 2 = (mid : Int) := by omega
  have hzn : (mid : Int) + (m : Int) = (n : Int) := by omega
  have hc0 : ¬ (mid : Int) < (m : Int) := by omega
  obtain rfl : lo = a := hlo
  clear hlen hlen' hR ha hb hSL hSR hm hL hRl hmid hn hcase hN ih 
  unfold CMP
  go_enter Tryz.func184, Tryz.ntmps184
  go_wp2
  go_loopw [20, 21] (fun iv jv wr => ∃ (i j : Nat), iv = .int .i64 i ∧ jv = .int .i64 j ∧ lo ≤ i ∧ i ≤ j ∧ j ≤ m ∧ Hid ((lo < i → ∀ x y, L[i - 1 - lo]? = some x → R[n - i - m]? = some y → ltP y x = false) ∧ (j < m → ∀ x y, L[j - lo]? = some x → R[n - 1 - j - m]? = some y → ltP y x = true)) ∧ Row wr g rest (pre ++ ((L ++ R) ++ post)) ∧ Below B w wr) (fun i j _ => (intOf j).toNat - (intOf i).toNat)
  case atStart => exact ⟨lo, m, rfl, rfl, Nat.le_refl _, f2, Nat.le_refl _, Lib.hid ⟨fun h => by omega, fun h => by omega⟩, HR0.out, Below.refl _ _⟩
  case round =>
    obtain ⟨i, j, rfl, rfl, hai, hij, hjb, HI, hRow, hBel⟩ := hrel
    by_cases hlt : i < j
    · have hltz : (i : Int) < (j : Int) := by omega
      obtain ⟨h, hh⟩ : ∃ h, h = (i + j) / 2 := ⟨_, rfl⟩
      obtain ⟨d, hd⟩ : ∃ d, d = n - 1 - h := ⟨_, rfl⟩
      have hi1 : i ≤ h := by omega
      have hi2 : h < j := by omega
      have hd1 : m ≤ d ∧ d < b := by omega
      have wsum : IntKind.i64.wrap ((i : Int) + (j : Int)) = (i : Int) + (j : Int) := IntWalk.i64_in _ (by omega)
      have hzh : ((i : Int) + (j : Int)) / 2 = (h : Int) := by omega
      have hzd : (n : Int) - 1 - (h : Int) = (d : Int) := by omega
      have wzd : IntKind.i64.wrap ((n : Int) - 1 - (h : Int)) = (d : Int) := by rw [hzd]; exact IntWalk.i64_in _ (by omega)
      have wzd2 : IntKind.i64.wrap (d : Int) = (d : Int) := IntWalk.i64_in _ (by omega)
      obtain ⟨x, hx⟩ : ∃ x, L[h - lo]? = some x := by
        have := HI0.out.1
        exact ⟨_, List.getElem?_eq_getElem (by omega)⟩
      obtain ⟨y, hy⟩ : ∃ y, R[d - m]? = some y := by
        have := HI0.out.2.1
        exact ⟨_, List.getElem?_eq_getElem (by omega)⟩
      have gx : (pre ++ ((L ++ R) ++ post))[h]? = some x := by
        have := get_part pre (L ++ R) post (i := h - lo) (x := x) (by rw [List.getElem?_append_left (List.getElem?_eq_some_iff.1 hx).1]; exact hx)
        rw [HI0.out.2.2.1, show lo + (h - lo) = h by omega] at this; exact this
      have gy : (pre ++ ((L ++ R) ++ post))[d]? = some y := by
        have hl := HI0.out.1
        have := get_part pre (L ++ R) post (i := L.length + (d - m)) (x := y) (by rw [List.getElem?_append_right (by omega), Nat.add_sub_cancel_left]; exact hy)
        rw [HI0.out.2.2.1, show lo + (L.length + (d - m)) = d by omega] at this; exact this
      have hg0 := hRow.lt
      have x0 := hRow.c0 gx
      have x1 := hRow.c1 gx
      have x2 := hRow.c2 gx
      have y0 := hRow.c0 gy
      have y1 := hRow.c1 gy
      have y2 := hRow.c2 gy
      have q1 : (h : Int) < (len : Int) := by omega
      have q2 : (d : Int) < (len : Int) := by omega
      have HRow := Lib.hid hRow
      have HBel := Lib.hid hBel
      have HX := Lib.hid hx
      have HY := Lib.hid hy
      have HD := Lib.hid (And.intro hh hd)
      clear gx gy hRow hBel hx hy hh hd
      have k0 : ∀ p : Later wr, p.v.cell? ⟨g, h * 3, none⟩ = some (.int .i32 x.r) := fun p => p.c x0 hg0
      have k1 : ∀ p : Later wr, p.v.cell? ⟨g, h * 3 + 1, none⟩ = some (.int .i64 x.k) := fun p => p.c x1 hg0
      have k2 : ∀ p : Later wr, p.v.cell? ⟨g, h * 3 + 2, none⟩ = some (.int .u8 x.c) := fun p => p.c x2 hg0
      have l0 : ∀ p : Later wr, p.v.cell? ⟨g, d * 3, none⟩ = some (.int .i32 y.r) := fun p => p.c y0 hg0
      have l1 : ∀ p : Later wr, p.v.cell? ⟨g, d * 3 + 1, none⟩ = some (.int .i64 y.k) := fun p => p.c y1 hg0
      have l2 : ∀ p : Later wr, p.v.cell? ⟨g, d * 3 + 2, none⟩ = some (.int .u8 y.c) := fun p => p.c y2 hg0
      clear x0 x1 x2 y0 y1 y2
      by_cases hc : ltP y x = true
      · have hcz : decide (cmpP y x < 0) = true := by rw [cmpP_lt, hc]
        have HC := Lib.hid hc
        have hcz2 : cmpP y x < 0 := of_decide_eq_true hcz
        clear hc
        go_wp2_with fail
        refine wp_region_quiet_later (by assumption) (by kernel_rfl) ?_
        repeat (quiet_step ((go_at_call 52; exact Calls.later_of (cmp28 y x _))))
        refine wpQuiet_nil ?_
        rintro _ ⟨p, rfl⟩
        have HRp := Lib.hid (HRow.out.to p.h)
        have HBp := Lib.hid (HBel.out.trans (p.h.mono (Nat.le_trans hB (Nat.le_of_lt hg0))))
        clear k0 k1 k2 l0 l1 l2
        go_wp2
        go_roundw
        case rel =>
          refine ⟨i, h, rfl, rfl, hai, hi1, by omega, Lib.hid ⟨HI.out.1, fun _ x' y' hx' hy' => ?_⟩, HRp.out, HBp.out⟩
          rw [HX.out] at hx'; cases hx'
          rw [← HD.out.2, HY.out] at hy'; cases hy'
          exact HC.out
        case measure => simp [intOf]; omega
      · have hc' : ltP y x = false := by simpa using hc
        have hcz : decide (cmpP y x < 0) = false := by rw [cmpP_lt, hc']
        have HC := Lib.hid hc'
        have hcz2 : ¬ cmpP y x < 0 := of_decide_eq_false hcz
        clear hc hc'
        go_wp2_with fail
        refine wp_region_quiet_later (by assumption) (by kernel_rfl) ?_
        repeat (quiet_step ((go_at_call 52; exact Calls.later_of (cmp28 y x _))))
        refine wpQuiet_nil ?_
        rintro _ ⟨p, rfl⟩
        have HRp := Lib.hid (HRow.out.to p.h)
        have HBp := Lib.hid (HBel.out.trans (p.h.mono (Nat.le_trans hB (Nat.le_of_lt hg0))))
        clear k0 k1 k2 l0 l1 l2
        go_wp2
        go_roundw
        case rel =>
          refine ⟨h + 1, j, by go_num, rfl, by omega, by omega, hjb, Lib.hid ⟨fun _ x' y' hx' hy' => ?_, HI.out.2⟩, HRp.out, HBp.out⟩
          rw [show h + 1 - 1 - lo = h - lo by omega, HX.out] at hx'; cases hx'
          rw [show n - (h + 1) - m = d - m by have := HD.out.2; omega, HY.out] at hy'; cases hy'
          exact HC.out
        case measure => simp [intOf]; omega
    · have hltz : ¬ (i : Int) < (j : Int) := by omega
      obtain rfl : i = j := by omega
      obtain ⟨e, he⟩ : ∃ e, e = n - i := ⟨_, rfl⟩
      have e1 : m ≤ e ∧ e ≤ b ∧ mid ≤ e := by omega
      have hze : (n : Int) - (i : Int) = (e : Int) := by omega
      obtain ⟨L1, L2, R1, R2, HP⟩ : ∃ L1 L2 R1 R2, Hid (L = L1 ++ L2 ∧ R = R1 ++ R2 ∧ L1.length = i - lo ∧ R1.length = e - m ∧ SM.mrg ltP L R = SM.mrg ltP L1 R1 ++ SM.mrg ltP L2 R2 ∧ SM.Srt ltP L1 ∧ SM.Srt ltP L2 ∧ SM.Srt ltP R1 ∧ SM.Srt ltP R2 ∧ e = n - i) := by
        obtain ⟨h1, h2, h3, h4, h5, _⟩ := HI0.out
        refine ⟨L.take (i - lo), L.drop (i - lo), R.take (e - m), R.drop (e - m), Lib.hid ⟨by simp, by simp, by rw [List.length_take]; omega, by rw [List.length_take]; omega, ?_, srt_take HSL.out _, srt_drop HSL.out _, srt_take HSR.out _, srt_drop HSR.out _, he⟩⟩
        refine four_parts HSL.out HSR.out (by omega) (by omega) (fun k1 k2 x y hx hy => ?_) (fun k1 k2 x y hx hy => ?_)
        · exact HI.out.1 (by omega) x y (by rw [show i - 1 - lo = i - lo - 1 by omega]; exact hx) (by rw [show n - i - m = e - m by omega]; exact hy)
        · exact HI.out.2 (by omega) x y hx (by rw [show n - 1 - i - m = e - m - 1 by omega]; exact hy)
      have HRow := Lib.hid hRow
      have HBel := Lib.hid hBel
      clear hRow hBel hlt HI he
      by_cases hr : i < m ∧ m < e
      · obtain ⟨hra, hrb⟩ := hr
        have j5 : decide ((i : Int) < (m : Int)) = true := decide_eq_true (by omega)
        have j6 : decide ((m : Int) < (e : Int)) = true := decide_eq_true (by omega)
        go_wp2_with fail
        obtain ⟨h1, h2, h3, h4, h5, h6, h7, h8, h9, h10⟩ := HP.out
        obtain ⟨i1, i2, i3, i4, i5, i6, i7⟩ := HI0.out
        have hL2 : L1.length + L2.length = L.length := by rw [h1, List.length_append]
        have hR2 : R1.length + R2.length = R.length := by rw [h2, List.length_append]
        have hrow0 := HRow.out
        rw [h1, h2] at hrow0
        refine (rotateZ _ g rest len cap (pre ++ L1) L2 R1 (R2 ++ post) _ B hB (by simpa using hrow0) (by simp only [List.length_append] at i7 ⊢; omega) hmax (by omega) (by omega) _ _ _ (by simp only [List.length_append]; omega) (by simp only [List.length_append]; omega) (by simp only [List.length_append]; omega)).mono ?_
        rintro er w1 ⟨rfl, hR1w, hB1w⟩
        have HRow1 : Hid (Row w1 g rest (pre ++ (L1 ++ (R1 ++ (L2 ++ (R2 ++ post)))))) := Lib.hid (by simpa using hR1w)
        have HBel1 := Lib.hid (HBel.out.trans hB1w)
        clear h1 h2 h3 h4 h5 h6 h7 h8 h9 h10 i1 i2 i3 i4 i5 i6 i7 hL2 hR2 hR1w hB1w hrow0
        by_cases hc1 : lo < i ∧ i < mid
        · obtain ⟨hc1a, hc1b⟩ := hc1
          have j3 : decide ((lo : Int) < (i : Int)) = true := decide_eq_true (by omega)
          have j4 : decide ((i : Int) < (mid : Int)) = true := decide_eq_true (by omega)
          go_wp2_with fail
          all_goals
            obtain ⟨h1, h2, h3, h4, h5, h6, h7, h8, h9, h10⟩ := HP.out
            obtain ⟨i1, i2, i3, i4, i5, i6, i7⟩ := HI0.out
            have hL2 : L1.length + L2.length = L.length := by rw [h1, List.length_append]
            have hR2 : R1.length + R2.length = R.length := by rw [h2, List.length_append]
            refine (IH.out g rest len cap pre L1 R1 (L2 ++ (R2 ++ post)) _ B (by omega) hB (by simpa using HRow1.out) (by simp only [List.length_append] at i7 ⊢; omega) hmax h6 h8 (by omega) (by omega) _ _ _ (by omega) (by omega) (by omega)).mono ?_
            rintro er w2 ⟨rfl, hR2w, hB2w⟩
            have HRow2 : Hid (Row w2 g rest (pre ++ (SM.mrg ltP L1 R1 ++ (L2 ++ (R2 ++ post))))) := Lib.hid hR2w
            have HBel2 := Lib.hid (HBel1.out.trans hB2w)
            clear h1 h2 h3 h4 h5 h6 h7 h8 h9 h10 i1 i2 i3 i4 i5 i6 i7 hL2 hR2 hR2w hB2w
            by_cases hc2 : mid < e ∧ e < b
            · obtain ⟨hc2a, hc2b⟩ := hc2
              have j1 : decide ((mid : Int) < (e : Int)) = true := decide_eq_true (by omega)
              have j2 : decide ((e : Int) < (b : Int)) = true := decide_eq_true (by omega)
              go_wp2_with fail
              all_goals
                obtain ⟨h1, h2, h3, h4, h5, h6, h7, h8, h9, h10⟩ := HP.out
                obtain ⟨i1, i2, i3, i4, i5, i6, i7⟩ := HI0.out
                have hL2 : L1.length + L2.length = L.length := by rw [h1, List.length_append]
                have hR2 : R1.length + R2.length = R.length := by rw [h2, List.length_append]
                refine (IH.out g rest len cap (pre ++ SM.mrg ltP L1 R1) L2 R2 post _ B (by omega) hB (by simpa using HRow2.out) (by simp only [List.length_append, SM.mrg_length] at i7 ⊢; omega) hmax h7 h9 (by omega) (by omega) _ _ _ (by simp only [List.length_append, SM.mrg_length]; omega) (by simp only [List.length_append, SM.mrg_length]; omega) (by simp only [List.length_append, SM.mrg_length]; omega)).mono ?_
                rintro er w3 ⟨rfl, hR3, hB3⟩
                have HF : Hid (Row w3 g rest (pre ++ (SM.mrg ltP L R ++ post))) := Lib.hid (by rw [h5]; simpa using hR3)
                have HFB := Lib.hid (HBel2.out.trans hB3)
                clear h1 h2 h3 h4 h5 h6 h7 h8 h9 h10 i1 i2 i3 i4 i5 i6 i7 hL2 hR2 hR3 hB3
                go_wp2
                all_goals (go_end0; exact ⟨rfl, HF.out, HFB.out⟩)
            · by_cases hc2a : mid < e
              · have j1 : decide ((mid : Int) < (e : Int)) = true := decide_eq_true (by omega)
                have j2 : decide ((e : Int) < (b : Int)) = false := decide_eq_false (by omega)
                have HF : Hid (Row _ g rest (pre ++ (SM.mrg ltP L R ++ post))) := Lib.hid (by
                  obtain ⟨h1, h2, h3, h4, h5, h6, h7, h8, h9, h10⟩ := HP.out
                  obtain ⟨i1, i2, i3, i4, i5, i6, i7⟩ := HI0.out
                  have hL2 : L1.length + L2.length = L.length := by rw [h1, List.length_append]
                  have hR2 : R1.length + R2.length = R.length := by rw [h2, List.length_append]
                  have e0 : SM.mrg ltP L2 R2 = L2 ++ R2 := by
                    by_cases hz0 : L2.length = 0
                    · rw [List.eq_nil_of_length_eq_zero hz0, SM.mrg_nil_l, List.nil_append]
                    · rw [List.eq_nil_of_length_eq_zero (show R2.length = 0 by omega), SM.mrg_nil_r, List.append_nil]
                  rw [h5, e0]; simpa using HRow2.out)
                go_wp2
                all_goals (go_end0; exact ⟨rfl, HF.out, HBel2.out⟩)
              · have j1 : decide ((mid : Int) < (e : Int)) = false := decide_eq_false (by omega)
                have HF : Hid (Row _ g rest (pre ++ (SM.mrg ltP L R ++ post))) := Lib.hid (by
                  obtain ⟨h1, h2, h3, h4, h5, h6, h7, h8, h9, h10⟩ := HP.out
                  obtain ⟨i1, i2, i3, i4, i5, i6, i7⟩ := HI0.out
                  have hL2 : L1.length + L2.length = L.length := by rw [h1, List.length_append]
                  have hR2 : R1.length + R2.length = R.length := by rw [h2, List.length_append]
                  have e0 : SM.mrg ltP L2 R2 = L2 ++ R2 := by
                    by_cases hz0 : L2.length = 0
                    · rw [List.eq_nil_of_length_eq_zero hz0, SM.mrg_nil_l, List.nil_append]
                    · rw [List.eq_nil_of_length_eq_zero (show R2.length = 0 by omega), SM.mrg_nil_r, List.append_nil]
                  rw [h5, e0]; simpa using HRow2.out)
                go_wp2
                all_goals (go_end0; exact ⟨rfl, HF.out, HBel2.out⟩)
        · by_cases hc1a : lo < i
          · have j3 : decide ((lo : Int) < (i : Int)) = true := decide_eq_true (by omega)
            have j4 : decide ((i : Int) < (mid : Int)) = false := decide_eq_false (by omega)
            have HRow2 : Hid (Row _ g rest (pre ++ (SM.mrg ltP L1 R1 ++ (L2 ++ (R2 ++ post))))) := Lib.hid (by
              obtain ⟨h1, h2, h3, h4, h5, h6, h7, h8, h9, h10⟩ := HP.out
              have e0 : SM.mrg ltP L1 R1 = L1 ++ R1 := by
                by_cases hz0 : L1.length = 0
                · rw [List.eq_nil_of_length_eq_zero hz0, SM.mrg_nil_l, List.nil_append]
                · rw [List.eq_nil_of_length_eq_zero (show R1.length = 0 by omega), SM.mrg_nil_r, List.append_nil]
              rw [e0]; simpa using HRow1.out)
            by_cases hc2 : mid < e ∧ e < b
            · obtain ⟨hc2a, hc2b⟩ := hc2
              have j1 : decide ((mid : Int) < (e : Int)) = true := decide_eq_true (by omega)
              have j2 : decide ((e : Int) < (b : Int)) = true := decide_eq_true (by omega)
              go_wp2_with fail
              all_goals
                obtain ⟨h1, h2, h3, h4, h5, h6, h7, h8, h9, h10⟩ := HP.out
                obtain ⟨i1, i2, i3, i4, i5, i6, i7⟩ := HI0.out
                have hL2 : L1.length + L2.length = L.length := by rw [h1, List.length_append]
                have hR2 : R1.length + R2.length = R.length := by rw [h2, List.length_append]
                refine (IH.out g rest len cap (pre ++ SM.mrg ltP L1 R1) L2 R2 post _ B (by omega) hB (by simpa using HRow2.out) (by simp only [List.length_append, SM.mrg_length] at i7 ⊢; omega) hmax h7 h9 (by omega) (by omega) _ _ _ (by simp only [List.length_append, SM.mrg_length]; omega) (by simp only [List.length_append, SM.mrg_length]; omega) (by simp only [List.length_append, SM.mrg_length]; omega)).mono ?_
                rintro er w3 ⟨rfl, hR3, hB3⟩
                have HF : Hid (Row w3 g rest (pre ++ (SM.mrg ltP L R ++ post))) := Lib.hid (by rw [h5]; simpa using hR3)
                have HFB := Lib.hid (HBel1.out.trans hB3)
                clear h1 h2 h3 h4 h5 h6 h7 h8 h9 h10 i1 i2 i3 i4 i5 i6 i7 hL2 hR2 hR3 hB3
                go_wp2
                all_goals (go_end0; exact ⟨rfl, HF.out, HFB.out⟩)
            · by_cases hc2a : mid < e
              · have j1 : decide ((mid : Int) < (e : Int)) = true := decide_eq_true (by omega)
                have j2 : decide ((e : Int) < (b : Int)) = false := decide_eq_false (by omega)
                have HF : Hid (Row _ g rest (pre ++ (SM.mrg ltP L R ++ post))) := Lib.hid (by
                  obtain ⟨h1, h2, h3, h4, h5, h6, h7, h8, h9, h10⟩ := HP.out
                  obtain ⟨i1, i2, i3, i4, i5, i6, i7⟩ := HI0.out
                  have hL2 : L1.length + L2.length = L.length := by rw [h1, List.length_append]
                  have hR2 : R1.length + R2.length = R.length := by rw [h2, List.length_append]
                  have e0 : SM.mrg ltP L2 R2 = L2 ++ R2 := by
                    by_cases hz0 : L2.length = 0
                    · rw [List.eq_nil_of_length_eq_zero hz0, SM.mrg_nil_l, List.nil_append]
                    · rw [List.eq_nil_of_length_eq_zero (show R2.length = 0 by omega), SM.mrg_nil_r, List.append_nil]
                  rw [h5, e0]; simpa using HRow2.out)
                go_wp2
                all_goals (go_end0; exact ⟨rfl, HF.out, HBel1.out⟩)
              · have j1 : decide ((mid : Int) < (e : Int)) = false := decide_eq_false (by omega)
                have HF : Hid (Row _ g rest (pre ++ (SM.mrg ltP L R ++ post))) := Lib.hid (by
                  obtain ⟨h1, h2, h3, h4, h5, h6, h7, h8, h9, h10⟩ := HP.out
                  obtain ⟨i1, i2, i3, i4, i5, i6, i7⟩ := HI0.out
                  have hL2 : L1.length + L2.length = L.length := by rw [h1, List.length_append]
                  have hR2 : R1.length + R2.length = R.length := by rw [h2, List.length_append]
                  have e0 : SM.mrg ltP L2 R2 = L2 ++ R2 := by
                    by_cases hz0 : L2.length = 0
                    · rw [List.eq_nil_of_length_eq_zero hz0, SM.mrg_nil_l, List.nil_append]
                    · rw [List.eq_nil_of_length_eq_zero (show R2.length = 0 by omega), SM.mrg_nil_r, List.append_nil]
                  rw [h5, e0]; simpa using HRow2.out)
                go_wp2
                all_goals (go_end0; exact ⟨rfl, HF.out, HBel1.out⟩)
          · have j3 : decide ((lo : Int) < (i : Int)) = false := decide_eq_false (by omega)
            have HRow2 : Hid (Row _ g rest (pre ++ (SM.mrg ltP L1 R1 ++ (L2 ++ (R2 ++ post))))) := Lib.hid (by
              obtain ⟨h1, h2, h3, h4, h5, h6, h7, h8, h9, h10⟩ := HP.out
              have e0 : SM.mrg ltP L1 R1 = L1 ++ R1 := by
                by_cases hz0 : L1.length = 0
                · rw [List.eq_nil_of_length_eq_zero hz0, SM.mrg_nil_l, List.nil_append]
                · rw [List.eq_nil_of_length_eq_zero (show R1.length = 0 by omega), SM.mrg_nil_r, List.append_nil]
              rw [e0]; simpa using HRow1.out)
            by_cases hc2 : mid < e ∧ e < b
            · obtain ⟨hc2a, hc2b⟩ := hc2
              have j1 : decide ((mid : Int) < (e : Int)) = true := decide_eq_true (by omega)
              have j2 : decide ((e : Int) < (b : Int)) = true := decide_eq_true (by omega)
              go_wp2_with fail
              all_goals
                obtain ⟨h1, h2, h3, h4, h5, h6, h7, h8, h9, h10⟩ := HP.out
                obtain ⟨i1, i2, i3, i4, i5, i6, i7⟩ := HI0.out
                have hL2 : L1.length + L2.length = L.length := by rw [h1, List.length_append]
                have hR2 : R1.length + R2.length = R.length := by rw [h2, List.length_append]
                refine (IH.out g rest len cap (pre ++ SM.mrg ltP L1 R1) L2 R2 post _ B (by omega) hB (by simpa using HRow2.out) (by simp only [List.length_append, SM.mrg_length] at i7 ⊢; omega) hmax h7 h9 (by omega) (by omega) _ _ _ (by simp only [List.length_append, SM.mrg_length]; omega) (by simp only [List.length_append, SM.mrg_length]; omega) (by simp only [List.length_append, SM.mrg_length]; omega)).mono ?_
                rintro er w3 ⟨rfl, hR3, hB3⟩
                have HF : Hid (Row w3 g rest (pre ++ (SM.mrg ltP L R ++ post))) := Lib.hid (by rw [h5]; simpa using hR3)
                have HFB := Lib.hid (HBel1.out.trans hB3)
                clear h1 h2 h3 h4 h5 h6 h7 h8 h9 h10 i1 i2 i3 i4 i5 i6 i7 hL2 hR2 hR3 hB3
                go_wp2
                all_goals (go_end0; exact ⟨rfl, HF.out, HFB.out⟩)
            · by_cases hc2a : mid < e
              · have j1 : decide ((mid : Int) < (e : Int)) = true := decide_eq_true (by omega)
                have j2 : decide ((e : Int) < (b : Int)) = false := decide_eq_false (by omega)
                have HF : Hid (Row _ g rest (pre ++ (SM.mrg ltP L R ++ post))) := Lib.hid (by
                  obtain ⟨h1, h2, h3, h4, h5, h6, h7, h8, h9, h10⟩ := HP.out
                  obtain ⟨i1, i2, i3, i4, i5, i6, i7⟩ := HI0.out
                  have hL2 : L1.length + L2.length = L.length := by rw [h1, List.length_append]
                  have hR2 : R1.length + R2.length = R.length := by rw [h2, List.length_append]
                  have e0 : SM.mrg ltP L2 R2 = L2 ++ R2 := by
                    by_cases hz0 : L2.length = 0
                    · rw [List.eq_nil_of_length_eq_zero hz0, SM.mrg_nil_l, List.nil_append]
                    · rw [List.eq_nil_of_length_eq_zero (show R2.length = 0 by omega), SM.mrg_nil_r, List.append_nil]
                  rw [h5, e0]; simpa using HRow2.out)
                go_wp2
                all_goals (go_end0; exact ⟨rfl, HF.out, HBel1.out⟩)
              · have j1 : decide ((mid : Int) < (e : Int)) = false := decide_eq_false (by omega)
                have HF : Hid (Row _ g rest (pre ++ (SM.mrg ltP L R ++ post))) := Lib.hid (by
                  obtain ⟨h1, h2, h3, h4, h5, h6, h7, h8, h9, h10⟩ := HP.out
                  obtain ⟨i1, i2, i3, i4, i5, i6, i7⟩ := HI0.out
                  have hL2 : L1.length + L2.length = L.length := by rw [h1, List.length_append]
                  have hR2 : R1.length + R2.length = R.length := by rw [h2, List.length_append]
                  have e0 : SM.mrg ltP L2 R2 = L2 ++ R2 := by
                    by_cases hz0 : L2.length = 0
                    · rw [List.eq_nil_of_length_eq_zero hz0, SM.mrg_nil_l, List.nil_append]
                    · rw [List.eq_nil_of_length_eq_zero (show R2.length = 0 by omega), SM.mrg_nil_r, List.append_nil]
                  rw [h5, e0]; simpa using HRow2.out)
                go_wp2
                all_goals (go_end0; exact ⟨rfl, HF.out, HBel1.out⟩)
      · by_cases hra : i < m
        · have j5 : decide ((i : Int) < (m : Int)) = true := decide_eq_true (by omega)
          have j6 : decide ((m : Int) < (e : Int)) = false := decide_eq_false (by omega)
          have HRow1 : Hid (Row _ g rest (pre ++ (L1 ++ (R1 ++ (L2 ++ (R2 ++ post)))))) := Lib.hid (by
            obtain ⟨h1, h2, h3, h4, h5, h6, h7, h8, h9, h10⟩ := HP.out
            obtain ⟨i1, i2, i3, i4, i5, i6, i7⟩ := HI0.out
            have hL2 : L1.length + L2.length = L.length := by rw [h1, List.length_append]
            have hrow0 := HRow.out
            rw [h1, h2] at hrow0
            by_cases hz0 : L2.length = 0
            · rw [List.eq_nil_of_length_eq_zero hz0] at hrow0 ⊢; simpa using hrow0
            · rw [List.eq_nil_of_length_eq_zero (show R1.length = 0 by omega)] at hrow0 ⊢; simpa using hrow0)
          by_cases hc1 : lo < i ∧ i < mid
          · obtain ⟨hc1a, hc1b⟩ := hc1
            have j3 : decide ((lo : Int) < (i : Int)) = true := decide_eq_true (by omega)
            have j4 : decide ((i : Int) < (mid : Int)) = true := decide_eq_true (by omega)
            go_wp2_with fail
            all_goals
              obtain ⟨h1, h2, h3, h4, h5, h6, h7, h8, h9, h10⟩ := HP.out
              obtain ⟨i1, i2, i3, i4, i5, i6, i7⟩ := HI0.out
              have hL2 : L1.length + L2.length = L.length := by rw [h1, List.length_append]
              have hR2 : R1.length + R2.length = R.length := by rw [h2, List.length_append]
              refine (IH.out g rest len cap pre L1 R1 (L2 ++ (R2 ++ post)) _ B (by omega) hB (by simpa using HRow1.out) (by simp only [List.length_append] at i7 ⊢; omega) hmax h6 h8 (by omega) (by omega) _ _ _ (by omega) (by omega) (by omega)).mono ?_
              rintro er w2 ⟨rfl, hR2w, hB2w⟩
              have HRow2 : Hid (Row w2 g rest (pre ++ (SM.mrg ltP L1 R1 ++ (L2 ++ (R2 ++ post))))) := Lib.hid hR2w
              have HBel2 := Lib.hid (HBel.out.trans hB2w)
              clear h1 h2 h3 h4 h5 h6 h7 h8 h9 h10 i1 i2 i3 i4 i5 i6 i7 hL2 hR2 hR2w hB2w
              by_cases hc2 : mid < e ∧ e < b
              · obtain ⟨hc2a, hc2b⟩ := hc2
                have j1 : decide ((mid : Int) < (e : Int)) = true := decide_eq_true (by omega)
                have j2 : decide ((e : Int) < (b : Int)) = true := decide_eq_true (by omega)
                go_wp2_with fail
                all_goals
                  obtain ⟨h1, h2, h3, h4, h5, h6, h7, h8, h9, h10⟩ := HP.out
                  obtain ⟨i1, i2, i3, i4, i5, i6, i7⟩ := HI0.out
                  have hL2 : L1.length + L2.length = L.length := by rw [h1, List.length_append]
                  have hR2 : R1.length + R2.length = R.length := by rw [h2, List.length_append]
                  refine (IH.out g rest len cap (pre ++ SM.mrg ltP L1 R1) L2 R2 post _ B (by omega) hB (by simpa using HRow2.out) (by simp only [List.length_append, SM.mrg_length] at i7 ⊢; omega) hmax h7 h9 (by omega) (by omega) _ _ _ (by simp only [List.length_append, SM.mrg_length]; omega) (by simp only [List.length_append, SM.mrg_length]; omega) (by simp only [List.length_append, SM.mrg_length]; omega)).mono ?_
                  rintro er w3 ⟨rfl, hR3, hB3⟩
                  have HF : Hid (Row w3 g rest (pre ++ (SM.mrg ltP L R ++ post))) := Lib.hid (by rw [h5]; simpa using hR3)
                  have HFB := Lib.hid (HBel2.out.trans hB3)
                  clear h1 h2 h3 h4 h5 h6 h7 h8 h9 h10 i1 i2 i3 i4 i5 i6 i7 hL2 hR2 hR3 hB3
                  go_wp2
                  all_goals (go_end0; exact ⟨rfl, HF.out, HFB.out⟩)
              · by_cases hc2a : mid < e
                · have j1 : decide ((mid : Int) < (e : Int)) = true := decide_eq_true (by omega)
                  have j2 : decide ((e : Int) < (b : Int)) = false := decide_eq_false (by omega)
                  have HF : Hid (Row _ g rest (pre ++ (SM.mrg ltP L R ++ post))) := Lib.hid (by
                    obtain ⟨h1, h2, h3, h4, h5, h6, h7, h8, h9, h10⟩ := HP.out
                    obtain ⟨i1, i2, i3, i4, i5, i6, i7⟩ := HI0.out
                    have hL2 : L1.length + L2.length = L.length := by rw [h1, List.length_append]
                    have hR2 : R1.length + R2.length = R.length := by rw [h2, List.length_append]
                    have e0 : SM.mrg ltP L2 R2 = L2 ++ R2 := by
                      by_cases hz0 : L2.length = 0
                      · rw [List.eq_nil_of_length_eq_zero hz0, SM.mrg_nil_l, List.nil_append]
                      · rw [List.eq_nil_of_length_eq_zero (show R2.length = 0 by omega), SM.mrg_nil_r, List.append_nil]
                    rw [h5, e0]; simpa using HRow2.out)
                  go_wp2
                  all_goals (go_end0; exact ⟨rfl, HF.out, HBel2.out⟩)
                · have j1 : decide ((mid : Int) < (e : Int)) = false := decide_eq_false (by omega)
                  have HF : Hid (Row _ g rest (pre ++ (SM.mrg ltP L R ++ post))) := Lib.hid (by
                    obtain ⟨h1, h2, h3, h4, h5, h6, h7, h8, h9, h10⟩ := HP.out
                    obtain ⟨i1, i2, i3, i4, i5, i6, i7⟩ := HI0.out
                    have hL2 : L1.length + L2.length = L.length := by rw [h1, List.length_append]
                    have hR2 : R1.length + R2.length = R.length := by rw [h2, List.length_append]
                    have e0 : SM.mrg ltP L2 R2 = L2 ++ R2 := by
                      by_cases hz0 : L2.length = 0
                      · rw [List.eq_nil_of_length_eq_zero hz0, SM.mrg_nil_l, List.nil_append]
                      · rw [List.eq_nil_of_length_eq_zero (show R2.length = 0 by omega), SM.mrg_nil_r, List.append_nil]
                    rw [h5, e0]; simpa using HRow2.out)
                  go_wp2
                  all_goals (go_end0; exact ⟨rfl, HF.out, HBel2.out⟩)
          · by_cases hc1a : lo < i
            · have j3 : decide ((lo : Int) < (i : Int)) = true := decide_eq_true (by omega)
              have j4 : decide ((i : Int) < (mid : Int)) = false := decide_eq_false (by omega)
              have HRow2 : Hid (Row _ g rest (pre ++ (SM.mrg ltP L1 R1 ++ (L2 ++ (R2 ++ post))))) := Lib.hid (by
                obtain ⟨h1, h2, h3, h4, h5, h6, h7, h8, h9, h10⟩ := HP.out
                have e0 : SM.mrg ltP L1 R1 = L1 ++ R1 := by
                  by_cases hz0 : L1.length = 0
                  · rw [List.eq_nil_of_length_eq_zero hz0, SM.mrg_nil_l, List.nil_append]
                  · rw [List.eq_nil_of_length_eq_zero (show R1.length = 0 by omega), SM.mrg_nil_r, List.append_nil]
                rw [e0]; simpa using HRow1.out)
              by_cases hc2 : mid < e ∧ e < b
              · obtain ⟨hc2a, hc2b⟩ := hc2
                have j1 : decide ((mid : Int) < (e : Int)) = true := decide_eq_true (by omega)
                have j2 : decide ((e : Int) < (b : Int)) = true := decide_eq_true (by omega)
                go_wp2_with fail
                all_goals
                  obtain ⟨h1, h2, h3, h4, h5, h6, h7, h8, h9, h10⟩ := HP.out
                  obtain ⟨i1, i2, i3, i4, i5, i6, i7⟩ := HI0.out
                  have hL2 : L1.length + L2.length = L.length := by rw [h1, List.length_append]
                  have hR2 : R1.length + R2.length = R.length := by rw [h2, List.length_append]
                  refine (IH.out g rest len cap (pre ++ SM.mrg ltP L1 R1) L2 R2 post _ B (by omega) hB (by simpa using HRow2.out) (by simp only [List.length_append, SM.mrg_length] at i7 ⊢; omega) hmax h7 h9 (by omega) (by omega) _ _ _ (by simp only [List.length_append, SM.mrg_length]; omega) (by simp only [List.length_append, SM.mrg_length]; omega) (by simp only [List.length_append, SM.mrg_length]; omega)).mono ?_
                  rintro er w3 ⟨rfl, hR3, hB3⟩
                  have HF : Hid (Row w3 g rest (pre ++ (SM.mrg ltP L R ++ post))) := Lib.hid (by rw [h5]; simpa using hR3)
                  have HFB := Lib.hid (HBel.out.trans hB3)
                  clear h1 h2 h3 h4 h5 h6 h7 h8 h9 h10 i1 i2 i3 i4 i5 i6 i7 hL2 hR2 hR3 hB3
                  go_wp2
                  all_goals (go_end0; exact ⟨rfl, HF.out, HFB.out⟩)
              · by_cases hc2a : mid < e
                · have j1 : decide ((mid : Int) < (e : Int)) = true := decide_eq_true (by omega)
                  have j2 : decide ((e : Int) < (b : Int)) = false := decide_eq_false (by omega)
                  have HF : Hid (Row _ g rest (pre ++ (SM.mrg ltP L R ++ post))) := Lib.hid (by
                    obtain ⟨h1, h2, h3, h4, h5, h6, h7, h8, h9, h10⟩ := HP.out
                    obtain ⟨i1, i2, i3, i4, i5, i6, i7⟩ := HI0.out
                    have hL2 : L1.length + L2.length = L.length := by rw [h1, List.length_append]
                    have hR2 : R1.length + R2.length = R.length := by rw [h2, List.length_append]
                    have e0 : SM.mrg ltP L2 R2 = L2 ++ R2 := by
                      by_cases hz0 : L2.length = 0
                      · rw [List.eq_nil_of_length_eq_zero hz0, SM.mrg_nil_l, List.nil_append]
                      · rw [List.eq_nil_of_length_eq_zero (show R2.length = 0 by omega), SM.mrg_nil_r, List.append_nil]
                    rw [h5, e0]; simpa using HRow2.out)
                  go_wp2
                  all_goals (go_end0; exact ⟨rfl, HF.out, HBel.out⟩)
                · have j1 : decide ((mid : Int) < (e : Int)) = false := decide_eq_false (by omega)
                  have HF : Hid (Row _ g rest (pre ++ (SM.mrg ltP L R ++ post))) := Lib.hid (by
                    obtain ⟨h1, h2, h3, h4, h5, h6, h7, h8, h9, h10⟩ := HP.out
                    obtain ⟨i1, i2, i3, i4, i5, i6, i7⟩ := HI0.out
                    have hL2 : L1.length + L2.length = L.length := by rw [h1, List.length_append]
                    have hR2 : R1.length + R2.length = R.length := by rw [h2, List.length_append]
                    have e0 : SM.mrg ltP L2 R2 = L2 ++ R2 := by
                      by_cases hz0 : L2.length = 0
                      · rw [List.eq_nil_of_length_eq_zero hz0, SM.mrg_nil_l, List.nil_append]
                      · rw [List.eq_nil_of_length_eq_zero (show R2.length = 0 by omega), SM.mrg_nil_r, List.append_nil]
                    rw [h5, e0]; simpa using HRow2.out)
                  go_wp2
                  all_goals (go_end0; exact ⟨rfl, HF.out, HBel.out⟩)
            · have j3 : decide ((lo : Int) < (i : Int)) = false := decide_eq_false (by omega)
              have HRow2 : Hid (Row _ g rest (pre ++ (SM.mrg ltP L1 R1 ++ (L2 ++ (R2 ++ post))))) := Lib.hid (by
                obtain ⟨h1, h2, h3, h4, h5, h6, h7, h8, h9, h10⟩ := HP.out
                have e0 : SM.mrg ltP L1 R1 = L1 ++ R1 := by
                  by_cases hz0 : L1.length = 0
                  · rw [List.eq_nil_of_length_eq_zero hz0, SM.mrg_nil_l, List.nil_append]
                  · rw [List.eq_nil_of_length_eq_zero (show R1.length = 0 by omega), SM.mrg_nil_r, List.append_nil]
                rw [e0]; simpa using HRow1.out)
              by_cases hc2 : mid < e ∧ e < b
              · obtain ⟨hc2a, hc2b⟩ := hc2
                have j1 : decide ((mid : Int) < (e : Int)) = true := decide_eq_true (by omega)
                have j2 : decide ((e : Int) < (b : Int)) = true := decide_eq_true (by omega)
                go_wp2_with fail
                all_goals
                  obtain ⟨h1, h2, h3, h4, h5, h6, h7, h8, h9, h10⟩ := HP.out
                  obtain ⟨i1, i2, i3, i4, i5, i6, i7⟩ := HI0.out
                  have hL2 : L1.length + L2.length = L.length := by rw [h1, List.length_append]
                  have hR2 : R1.length + R2.length = R.length := by rw [h2, List.length_append]
                  refine (IH.out g rest len cap (pre ++ SM.mrg ltP L1 R1) L2 R2 post _ B (by omega) hB (by simpa using HRow2.out) (by simp only [List.length_append, SM.mrg_length] at i7 ⊢; omega) hmax h7 h9 (by omega) (by omega) _ _ _ (by simp only [List.length_append, SM.mrg_length]; omega) (by simp only [List.length_append, SM.mrg_length]; omega) (by simp only [List.length_append, SM.mrg_length]; omega)).mono ?_
                  rintro er w3 ⟨rfl, hR3, hB3⟩
                  have HF : Hid (Row w3 g rest (pre ++ (SM.mrg ltP L R ++ post))) := Lib.hid (by rw [h5]; simpa using hR3)
                  have HFB := Lib.hid (HBel.out.trans hB3)
                  clear h1 h2 h3 h4 h5 h6 h7 h8 h9 h10 i1 i2 i3 i4 i5 i6 i7 hL2 hR2 hR3 hB3
                  go_wp2
                  all_goals (go_end0; exact ⟨rfl, HF.out, HFB.out⟩)
              · by_cases hc2a : mid < e
                · have j1 : decide ((mid : Int) < (e : Int)) = true := decide_eq_true (by omega)
                  have j2 : decide ((e : Int) < (b : Int)) = false := decide_eq_false (by omega)
                  have HF : Hid (Row _ g rest (pre ++ (SM.mrg ltP L R ++ post))) := Lib.hid (by
                    obtain ⟨h1, h2, h3, h4, h5, h6, h7, h8, h9, h10⟩ := HP.out
                    obtain ⟨i1, i2, i3, i4, i5, i6, i7⟩ := HI0.out
                    have hL2 : L1.length + L2.length = L.length := by rw [h1, List.length_append]
                    have hR2 : R1.length + R2.length = R.length := by rw [h2, List.length_append]
                    have e0 : SM.mrg ltP L2 R2 = L2 ++ R2 := by
                      by_cases hz0 : L2.length = 0
                      · rw [List.eq_nil_of_length_eq_zero hz0, SM.mrg_nil_l, List.nil_append]
                      · rw [List.eq_nil_of_length_eq_zero (show R2.length = 0 by omega), SM.mrg_nil_r, List.append_nil]
                    rw [h5, e0]; simpa using HRow2.out)
                  go_wp2
                  all_goals (go_end0; exact ⟨rfl, HF.out, HBel.out⟩)
                · have j1 : decide ((mid : Int) < (e : Int)) = false := decide_eq_false (by omega)
                  have HF : Hid (Row _ g rest (pre ++ (SM.mrg ltP L R ++ post))) := Lib.hid (by
                    obtain ⟨h1, h2, h3, h4, h5, h6, h7, h8, h9, h10⟩ := HP.out
                    obtain ⟨i1, i2, i3, i4, i5, i6, i7⟩ := HI0.out
                    have hL2 : L1.length + L2.length = L.length := by rw [h1, List.length_append]
                    have hR2 : R1.length + R2.length = R.length := by rw [h2, List.length_append]
                    have e0 : SM.mrg ltP L2 R2 = L2 ++ R2 := by
                      by_cases hz0 : L2.length = 0
                      · rw [List.eq_nil_of_length_eq_zero hz0, SM.mrg_nil_l, List.nil_append]
                      · rw [List.eq_nil_of_length_eq_zero (show R2.length = 0 by omega), SM.mrg_nil_r, List.append_nil]
                    rw [h5, e0]; simpa using HRow2.out)
                  go_wp2
                  all_goals (go_end0; exact ⟨rfl, HF.out, HBel.out⟩)
        · have j5 : decide ((i : Int) < (m : Int)) = false := decide_eq_false (by omega)
          have HRow1 : Hid (Row _ g rest (pre ++ (L1 ++ (R1 ++ (L2 ++ (R2 ++ post)))))) := Lib.hid (by
            obtain ⟨h1, h2, h3, h4, h5, h6, h7, h8, h9, h10⟩ := HP.out
            obtain ⟨i1, i2, i3, i4, i5, i6, i7⟩ := HI0.out
            have hL2 : L1.length + L2.length = L.length := by rw [h1, List.length_append]
            have hrow0 := HRow.out
            rw [h1, h2] at hrow0
            by_cases hz0 : L2.length = 0
            · rw [List.eq_nil_of_length_eq_zero hz0] at hrow0 ⊢; simpa using hrow0
            · rw [List.eq_nil_of_length_eq_zero (show R1.length = 0 by omega)] at hrow0 ⊢; simpa using hrow0)
          by_cases hc1 : lo < i ∧ i < mid
          · obtain ⟨hc1a, hc1b⟩ := hc1
            have j3 : decide ((lo : Int) < (i : Int)) = true := decide_eq_true (by omega)
            have j4 : decide ((i : Int) < (mid : Int)) = true := decide_eq_true (by omega)
            go_wp2_with fail
            all_goals
              obtain ⟨h1, h2, h3, h4, h5, h6, h7, h8, h9, h10⟩ := HP.out
              obtain ⟨i1, i2, i3, i4, i5, i6, i7⟩ := HI0.out
              have hL2 : L1.length + L2.length = L.length := by rw [h1, List.length_append]
              have hR2 : R1.length + R2.length = R.length := by rw [h2, List.length_append]
              refine (IH.out g rest len cap pre L1 R1 (L2 ++ (R2 ++ post)) _ B (by omega) hB (by simpa using HRow1.out) (by simp only [List.length_append] at i7 ⊢; omega) hmax h6 h8 (by omega) (by omega) _ _ _ (by omega) (by omega) (by omega)).mono ?_
              rintro er w2 ⟨rfl, hR2w, hB2w⟩
              have HRow2 : Hid (Row w2 g rest (pre ++ (SM.mrg ltP L1 R1 ++ (L2 ++ (R2 ++ post))))) := Lib.hid hR2w
              have HBel2 := Lib.hid (HBel.out.trans hB2w)
              clear h1 h2 h3 h4 h5 h6 h7 h8 h9 h10 i1 i2 i3 i4 i5 i6 i7 hL2 hR2 hR2w hB2w
              by_cases hc2 : mid < e ∧ e < b
              · obtain ⟨hc2a, hc2b⟩ := hc2
                have j1 : decide ((mid : Int) < (e : Int)) = true := decide_eq_true (by omega)
                have j2 : decide ((e : Int) < (b : Int)) = true := decide_eq_true (by omega)
                go_wp2_with fail
                all_goals
                  obtain ⟨h1, h2, h3, h4, h5, h6, h7, h8, h9, h10⟩ := HP.out
                  obtain ⟨i1, i2, i3, i4, i5, i6, i7⟩ := HI0.out
                  have hL2 : L1.length + L2.length = L.length := by rw [h1, List.length_append]
                  have hR2 : R1.length + R2.length = R.length := by rw [h2, List.length_append]
                  refine (IH.out g rest len cap (pre ++ SM.mrg ltP L1 R1) L2 R2 post _ B (by omega) hB (by simpa using HRow2.out) (by simp only [List.length_append, SM.mrg_length] at i7 ⊢; omega) hmax h7 h9 (by omega) (by omega) _ _ _ (by simp only [List.length_append, SM.mrg_length]; omega) (by simp only [List.length_append, SM.mrg_length]; omega) (by simp only [List.length_append, SM.mrg_length]; omega)).mono ?_
                  rintro er w3 ⟨rfl, hR3, hB3⟩
                  have HF : Hid (Row w3 g rest (pre ++ (SM.mrg ltP L R ++ post))) := Lib.hid (by rw [h5]; simpa using hR3)
                  have HFB := Lib.hid (HBel2.out.trans hB3)
                  clear h1 h2 h3 h4 h5 h6 h7 h8 h9 h10 i1 i2 i3 i4 i5 i6 i7 hL2 hR2 hR3 hB3
                  go_wp2
                  all_goals (go_end0; exact ⟨rfl, HF.out, HFB.out⟩)
              · by_cases hc2a : mid < e
                · have j1 : decide ((mid : Int) < (e : Int)) = true := decide_eq_true (by omega)
                  have j2 : decide ((e : Int) < (b : Int)) = false := decide_eq_false (by omega)
                  have HF : Hid (Row _ g rest (pre ++ (SM.mrg ltP L R ++ post))) := Lib.hid (by
                    obtain ⟨h1, h2, h3, h4, h5, h6, h7, h8, h9, h10⟩ := HP.out
                    obtain ⟨i1, i2, i3, i4, i5, i6, i7⟩ := HI0.out
                    have hL2 : L1.length + L2.length = L.length := by rw [h1, List.length_append]
                    have hR2 : R1.length + R2.length = R.length := by rw [h2, List.length_append]
                    have e0 : SM.mrg ltP L2 R2 = L2 ++ R2 := by
                      by_cases hz0 : L2.length = 0
                      · rw [List.eq_nil_of_length_eq_zero hz0, SM.mrg_nil_l, List.nil_append]
                      · rw [List.eq_nil_of_length_eq_zero (show R2.length = 0 by omega), SM.mrg_nil_r, List.append_nil]
                    rw [h5, e0]; simpa using HRow2.out)
                  go_wp2
                  all_goals (go_end0; exact ⟨rfl, HF.out, HBel2.out⟩)
                · have j1 : decide ((mid : Int) < (e : Int)) = false := decide_eq_false (by omega)
                  have HF : Hid (Row _ g rest (pre ++ (SM.mrg ltP L R ++ post))) := Lib.hid (by
                    obtain ⟨h1, h2, h3, h4, h5, h6, h7, h8, h9, h10⟩ := HP.out
                    obtain ⟨i1, i2, i3, i4, i5, i6, i7⟩ := HI0.out
                    have hL2 : L1.length + L2.length = L.length := by rw [h1, List.length_append]
                    have hR2 : R1.length + R2.length = R.length := by rw [h2, List.length_append]
                    have e0 : SM.mrg ltP L2 R2 = L2 ++ R2 := by
                      by_cases hz0 : L2.length = 0
                      · rw [List.eq_nil_of_length_eq_zero hz0, SM.mrg_nil_l, List.nil_append]
                      · rw [List.eq_nil_of_length_eq_zero (show R2.length = 0 by omega), SM.mrg_nil_r, List.append_nil]
                    rw [h5, e0]; simpa using HRow2.out)
                  go_wp2
                  all_goals (go_end0; exact ⟨rfl, HF.out, HBel2.out⟩)
          · by_cases hc1a : lo < i
            · have j3 : decide ((lo : Int) < (i : Int)) = true := decide_eq_true (by omega)
              have j4 : decide ((i : Int) < (mid : Int)) = false := decide_eq_false (by omega)
              have HRow2 : Hid (Row _ g rest (pre ++ (SM.mrg ltP L1 R1 ++ (L2 ++ (R2 ++ post))))) := Lib.hid (by
                obtain ⟨h1, h2, h3, h4, h5, h6, h7, h8, h9, h10⟩ := HP.out
                have e0 : SM.mrg ltP L1 R1 = L1 ++ R1 := by
                  by_cases hz0 : L1.length = 0
                  · rw [List.eq_nil_of_length_eq_zero hz0, SM.mrg_nil_l, List.nil_append]
                  · rw [List.eq_nil_of_length_eq_zero (show R1.length = 0 by omega), SM.mrg_nil_r, List.append_nil]
                rw [e0]; simpa using HRow1.out)
              by_cases hc2 : mid < e ∧ e < b
              · obtain ⟨hc2a, hc2b⟩ := hc2
                have j1 : decide ((mid : Int) < (e : Int)) = true := decide_eq_true (by omega)
                have j2 : decide ((e : Int) < (b : Int)) = true := decide_eq_true (by omega)
                go_wp2_with fail
                all_goals
                  obtain ⟨h1, h2, h3, h4, h5, h6, h7, h8, h9, h10⟩ := HP.out
                  obtain ⟨i1, i2, i3, i4, i5, i6, i7⟩ := HI0.out
                  have hL2 : L1.length + L2.length = L.length := by rw [h1, List.length_append]
                  have hR2 : R1.length + R2.length = R.length := by rw [h2, List.length_append]
                  refine (IH.out g rest len cap (pre ++ SM.mrg ltP L1 R1) L2 R2 post _ B (by omega) hB (by simpa using HRow2.out) (by simp only [List.length_append, SM.mrg_length] at i7 ⊢; omega) hmax h7 h9 (by omega) (by omega) _ _ _ (by simp only [List.length_append, SM.mrg_length]; omega) (by simp only [List.length_append, SM.mrg_length]; omega) (by simp only [List.length_append, SM.mrg_length]; omega)).mono ?_
                  rintro er w3 ⟨rfl, hR3, hB3⟩
                  have HF : Hid (Row w3 g rest (pre ++ (SM.mrg ltP L R ++ post))) := Lib.hid (by rw [h5]; simpa using hR3)
                  have HFB := Lib.hid (HBel.out.trans hB3)
                  clear h1 h2 h3 h4 h5 h6 h7 h8 h9 h10 i1 i2 i3 i4 i5 i6 i7 hL2 hR2 hR3 hB3
                  go_wp2
                  all_goals (go_end0; exact ⟨rfl, HF.out, HFB.out⟩)
              · by_cases hc2a : mid < e
                · have j1 : decide ((mid : Int) < (e : Int)) = true := decide_eq_true (by omega)
                  have j2 : decide ((e : Int) < (b : Int)) = false := decide_eq_false (by omega)
                  have HF : Hid (Row _ g rest (pre ++ (SM.mrg ltP L R ++ post))) := Lib.hid (by
                    obtain ⟨h1, h2, h3, h4, h5, h6, h7, h8, h9, h10⟩ := HP.out
                    obtain ⟨i1, i2, i3, i4, i5, i6, i7⟩ := HI0.out
                    have hL2 : L1.length + L2.length = L.length := by rw [h1, List.length_append]
                    have hR2 : R1.length + R2.length = R.length := by rw [h2, List.length_append]
                    have e0 : SM.mrg ltP L2 R2 = L2 ++ R2 := by
                      by_cases hz0 : L2.length = 0
                      · rw [List.eq_nil_of_length_eq_zero hz0, SM.mrg_nil_l, List.nil_append]
                      · rw [List.eq_nil_of_length_eq_zero (show R2.length = 0 by omega), SM.mrg_nil_r, List.append_nil]
                    rw [h5, e0]; simpa using HRow2.out)
                  go_wp2
                  all_goals (go_end0; exact ⟨rfl, HF.out, HBel.out⟩)
                · have j1 : decide ((mid : Int) < (e : Int)) = false := decide_eq_false (by omega)
                  have HF : Hid (Row _ g rest (pre ++ (SM.mrg ltP L R ++ post))) := Lib.hid (by
                    obtain ⟨h1, h2, h3, h4, h5, h6, h7, h8, h9, h10⟩ := HP.out
                    obtain ⟨i1, i2, i3, i4, i5, i6, i7⟩ := HI0.out
                    have hL2 : L1.length + L2.length = L.length := by rw [h1, List.length_append]
                    have hR2 : R1.length + R2.length = R.length := by rw [h2, List.length_append]
                    have e0 : SM.mrg ltP L2 R2 = L2 ++ R2 := by
                      by_cases hz0 : L2.length = 0
                      · rw [List.eq_nil_of_length_eq_zero hz0, SM.mrg_nil_l, List.nil_append]
                      · rw [List.eq_nil_of_length_eq_zero (show R2.length = 0 by omega), SM.mrg_nil_r, List.append_nil]
                    rw [h5, e0]; simpa using HRow2.out)
                  go_wp2
                  all_goals (go_end0; exact ⟨rfl, HF.out, HBel.out⟩)
            · have j3 : decide ((lo : Int) < (i : Int)) = false := decide_eq_false (by omega)
              have HRow2 : Hid (Row _ g rest (pre ++ (SM.mrg ltP L1 R1 ++ (L2 ++ (R2 ++ post))))) := Lib.hid (by
                obtain ⟨h1, h2, h3, h4, h5, h6, h7, h8, h9, h10⟩ := HP.out
                have e0 : SM.mrg ltP L1 R1 = L1 ++ R1 := by
                  by_cases hz0 : L1.length = 0
                  · rw [List.eq_nil_of_length_eq_zero hz0, SM.mrg_nil_l, List.nil_append]
                  · rw [List.eq_nil_of_length_eq_zero (show R1.length = 0 by omega), SM.mrg_nil_r, List.append_nil]
                rw [e0]; simpa using HRow1.out)
              by_cases hc2 : mid < e ∧ e < b
              · obtain ⟨hc2a, hc2b⟩ := hc2
                have j1 : decide ((mid : Int) < (e : Int)) = true := decide_eq_true (by omega)
                have j2 : decide ((e : Int) < (b : Int)) = true := decide_eq_true (by omega)
                go_wp2_with fail
                all_goals
                  obtain ⟨h1, h2, h3, h4, h5, h6, h7, h8, h9, h10⟩ := HP.out
                  obtain ⟨i1, i2, i3, i4, i5, i6, i7⟩ := HI0.out
                  have hL2 : L1.length + L2.length = L.length := by rw [h1, List.length_append]
                  have hR2 : R1.length + R2.length = R.length := by rw [h2, List.length_append]
                  refine (IH.out g rest len cap (pre ++ SM.mrg ltP L1 R1) L2 R2 post _ B (by omega) hB (by simpa using HRow2.out) (by simp only [List.length_append, SM.mrg_length] at i7 ⊢; omega) hmax h7 h9 (by omega) (by omega) _ _ _ (by simp only [List.length_append, SM.mrg_length]; omega) (by simp only [List.length_append, SM.mrg_length]; omega) (by simp only [List.length_append, SM.mrg_length]; omega)).mono ?_
                  rintro er w3 ⟨rfl, hR3, hB3⟩
                  have HF : Hid (Row w3 g rest (pre ++ (SM.mrg ltP L R ++ post))) := Lib.hid (by rw [h5]; simpa using hR3)
                  have HFB := Lib.hid (HBel.out.trans hB3)
                  clear h1 h2 h3 h4 h5 h6 h7 h8 h9 h10 i1 i2 i3 i4 i5 i6 i7 hL2 hR2 hR3 hB3
                  go_wp2
                  all_goals (go_end0; exact ⟨rfl, HF.out, HFB.out⟩)
              · by_cases hc2a : mid < e
                · have j1 : decide ((mid : Int) < (e : Int)) = true := decide_eq_true (by omega)
                  have j2 : decide ((e : Int) < (b : Int)) = false := decide_eq_false (by omega)
                  have HF : Hid (Row _ g rest (pre ++ (SM.mrg ltP L R ++ post))) := Lib.hid (by
                    obtain ⟨h1, h2, h3, h4, h5, h6, h7, h8, h9, h10⟩ := HP.out
                    obtain ⟨i1, i2, i3, i4, i5, i6, i7⟩ := HI0.out
                    have hL2 : L1.length + L2.length = L.length := by rw [h1, List.length_append]
                    have hR2 : R1.length + R2.length = R.length := by rw [h2, List.length_append]
                    have e0 : SM.mrg ltP L2 R2 = L2 ++ R2 := by
                      by_cases hz0 : L2.length = 0
                      · rw [List.eq_nil_of_length_eq_zero hz0, SM.mrg_nil_l, List.nil_append]
                      · rw [List.eq_nil_of_length_eq_zero (show R2.length = 0 by omega), SM.mrg_nil_r, List.append_nil]
                    rw [h5, e0]; simpa using HRow2.out)
                  go_wp2
                  all_goals (go_end0; exact ⟨rfl, HF.out, HBel.out⟩)
                · have j1 : decide ((mid : Int) < (e : Int)) = false := decide_eq_false (by omega)
                  have HF : Hid (Row _ g rest (pre ++ (SM.mrg ltP L R ++ post))) := Lib.hid (by
                    obtain ⟨h1, h2, h3, h4, h5, h6, h7, h8, h9, h10⟩ := HP.out
                    obtain ⟨i1, i2, i3, i4, i5, i6, i7⟩ := HI0.out
                    have hL2 : L1.length + L2.length = L.length := by rw [h1, List.length_append]
                    have hR2 : R1.length + R2.length = R.length := by rw [h2, List.length_append]
                    have e0 : SM.mrg ltP L2 R2 = L2 ++ R2 := by
                      by_cases hz0 : L2.length = 0
                      · rw [List.eq_nil_of_length_eq_zero hz0, SM.mrg_nil_l, List.nil_append]
                      · rw [List.eq_nil_of_length_eq_zero (show R2.length = 0 by omega), SM.mrg_nil_r, List.append_nil]
                    rw [h5, e0]; simpa using HRow2.out)
                  go_wp2
                  all_goals (go_end0; exact ⟨rfl, HF.out, HBel.out⟩)
end Go.Proofs.YtlpkcpacfldfaaaGreat
namespace Go.Proofs.YtlpkcpacfldfaaaGreat
open Go.RowKit N
set_option maxRecDepth 100000 in
set_option maxHeartbeats 16000000 in
theorem sym_big (N : Nat) (ih : SymUpTo N) (g : Nat) (rest : List Value) (len cap : Nat) (pre L R post : List Pl) (w : World) (B : Nat) (hN : L.length + R.length ≤ N + 1) (hB : B ≤ g) (hR : Row w g rest (pre ++ ((L ++ R) ++ post))) (hlen : (pre ++ ((L ++ R) ++ post)).length = len) (hmax : len ≤ 35184372088320) (hSL : SM.Srt ltP L) (hSR : SM.Srt ltP R) (hL : 2 ≤ L.length) (hRl : 2 ≤ R.length) (a m b mid n lo : Nat) (ha : pre.length = a) (hm : a + L.length = m) (hb : m + R.length = b) (hmid : mid = (a + b) / 2) (hn : n = mid + m) (hlo : lo = n - b) (hcase : mid < m) :
    Calls Tryz.prog 184 #[.slice (some ⟨g, 0, none⟩) len cap, .int .i64 a, .int .i64 m, .int .i64 b, CMP] w fun e w' => e = .returned (.tuple #[]) ∧ Row w' g rest (pre ++ (SM.mrg ltP L R ++ post)) ∧ Below B w w' := by
  have hlen' : pre.length + L.length + R.length + post.length = len := by rw [← hlen]; simp; omega
  have b1 : b ≤ len := by omega
  have b2 : a + 2 ≤ m := by omega
  have b3 : m + 2 ≤ b := by omega
  have f0 : a ≤ lo ∧ lo ≤ mid ∧ mid ≤ m ∧ mid ≤ mid ∧ n ≤ lo + b ∧ m + mid ≤ n ∧ a ≤ mid ∧ mid ≤ b ∧ n ≤ mid + m ∧ mid + m ≤ n := by omega
  obtain ⟨f1, f2, f3, f4, f5, f6, f7, f8, f9, f10⟩ := f0
  have HI0 : Hid (L.length = m - a ∧ R.length = b - m ∧ pre.length = a ∧ pre.length + L.length + R.length + post.length = len ∧ lo = n - b ∧ L.length + R.length ≤ N + 1 ∧ (pre ++ ((L ++ R) ++ post)).length = len) := Lib.hid ⟨by omega, by omega, ha, hlen', hlo, hN, hlen⟩
  have HR0 := Lib.hid hR
  have HSL := Lib.hid hSL
  have HSR := Lib.hid hSR
  have IH := Lib.hid ih
  have hm0 : Tryz.prog.follows .mixedOrders = true := by kernel_rfl
  have wz : IntKind.i64.wrap ((m : Int) - (a : Int)) = (m : Int) - (a : Int) := IntWalk.i64_in _ (by omega)
  have wz2 : ((m : Int) - (a : Int) == 1) = false := by simp; omega
  have wy : IntKind.i64.wrap ((b : Int) - (m : Int)) = (b : Int) - (m : Int) := IntWalk.i64_in _ (by omega)
  have wy2 : ((b : Int) - (m : Int) == 1) = false := by simp; omega
  have wab : IntKind.i64.wrap ((a : Int) + (b : Int)) = (a : Int) + (b : Int) := IntWalk.i64_in _ (by omega)
  have hz : ((a : Int) + (b : Int)) / 2 = (mid : Int) := by omega
  have hzn : (mid : Int) + (m : Int) = (n : Int) := by omega
  have hc0 : (mid : Int) < (m : Int) := by omega
  have hnb : (n : Int) - (b : Int) = (lo : Int) := by omega
  clear hlen hlen' hR ha hb hSL hSR hm hL hRl hmid hn hcase hN ih hlo
  unfold CMP
  go_enter Tryz.func184, Tryz.ntmps184
  go_wp2
  go_loopw [20, 21] (fun iv jv wr => ∃ (i j : Nat), iv = .int .i64 i ∧ jv = .int .i64 j ∧ lo ≤ i ∧ i ≤ j ∧ j ≤ mid ∧ Hid ((lo < i → ∀ x y, L[i - 1 - a]? = some x → R[n - i - m]? = some y → ltP y x = false) ∧ (j < mid → ∀ x y, L[j - a]? = some x → R[n - 1 - j - m]? = some y → ltP y x = true)) ∧ Row wr g rest (pre ++ ((L ++ R) ++ post)) ∧ Below B w wr) (fun i j _ => (intOf j).toNat - (intOf i).toNat)
  case atStart => exact ⟨lo, mid, rfl, rfl, Nat.le_refl _, f2, Nat.le_refl _, Lib.hid ⟨fun h => by omega, fun h => by omega⟩, HR0.out, Below.refl _ _⟩
  case round =>
    obtain ⟨i, j, rfl, rfl, hai, hij, hjb, HI, hRow, hBel⟩ := hrel
    by_cases hlt : i < j
    · have hltz : (i : Int) < (j : Int) := by omega
      obtain ⟨h, hh⟩ : ∃ h, h = (i + j) / 2 := ⟨_, rfl⟩
      obtain ⟨d, hd⟩ : ∃ d, d = n - 1 - h := ⟨_, rfl⟩
      have hi1 : i ≤ h := by omega
      have hi2 : h < j := by omega
      have hd1 : m ≤ d ∧ d < b := by omega
      have wsum : IntKind.i64.wrap ((i : Int) + (j : Int)) = (i : Int) + (j : Int) := IntWalk.i64_in _ (by omega)
      have hzh : ((i : Int) + (j : Int)) / 2 = (h : Int) := by omega
      have hzd : (n : Int) - 1 - (h : Int) = (d : Int) := by omega
      have wzd : IntKind.i64.wrap ((n : Int) - 1 - (h : Int)) = (d : Int) := by rw [hzd]; exact IntWalk.i64_in _ (by omega)
      have wzd2 : IntKind.i64.wrap (d : Int) = (d : Int) := IntWalk.i64_in _ (by omega)
      obtain ⟨x, hx⟩ : ∃ x, L[h - a]? = some x := by
        have := HI0.out.1
        exact ⟨_, List.getElem?_eq_getElem (by omega)⟩
      obtain ⟨y, hy⟩ : ∃ y, R[d - m]? = some y := by
        have := HI0.out.2.1
        exact ⟨_, List.getElem?_eq_getElem (by omega)⟩
      have gx : (pre ++ ((L ++ R) ++ post))[h]? = some x := by
        have := get_part pre (L ++ R) post (i := h - a) (x := x) (by rw [List.getElem?_append_left (List.getElem?_eq_some_iff.1 hx).1]; exact hx)
        rw [HI0.out.2.2.1, show a + (h - a) = h by omega] at this; exact this
      have gy : (pre ++ ((L ++ R) ++ post))[d]? = some y := by
        have hl := HI0.out.1
        have := get_part pre (L ++ R) post (i := L.length + (d - m)) (x := y) (by rw [List.getElem?_append_right (by omega), Nat.add_sub_cancel_left]; exact hy)
        rw [HI0.out.2.2.1, show a + (L.length + (d - m)) = d by omega] at this; exact this
      have hg0 := hRow.lt
      have x0 := hRow.c0 gx
      have x1 := hRow.c1 gx
      have x2 := hRow.c2 gx
      have y0 := hRow.c0 gy
      have y1 := hRow.c1 gy
      have y2 := hRow.c2 gy
      have q1 : (h : Int) < (len : Int) := by omega
      have q2 : (d : Int) < (len : Int) := by omega
      have HRow := Lib.hid hRow
      have HBel := Lib.hid hBel
      have HX := Lib.hid hx
      have HY := Lib.hid hy
      have HD := Lib.hid (And.intro hh hd)
      clear gx gy hRow hBel hx hy hh hd
      have k0 : ∀ p : Later wr, p.v.cell? ⟨g, h * 3, none⟩ = some (.int .i32 x.r) := fun p => p.c x0 hg0
      have k1 : ∀ p : Later wr, p.v.cell? ⟨g, h * 3 + 1, none⟩ = some (.int .i64 x.k) := fun p => p.c x1 hg0
      have k2 : ∀ p : Later wr, p.v.cell? ⟨g, h * 3 + 2, none⟩ = some (.int .u8 x.c) := fun p => p.c x2 hg0
      have l0 : ∀ p : Later wr, p.v.cell? ⟨g, d * 3, none⟩ = some (.int .i32 y.r) := fun p => p.c y0 hg0
      have l1 : ∀ p : Later wr, p.v.cell? ⟨g, d * 3 + 1, none⟩ = some (.int .i64 y.k) := fun p => p.c y1 hg0
      have l2 : ∀ p : Later wr, p.v.cell? ⟨g, d * 3 + 2, none⟩ = some (.int .u8 y.c) := fun p => p.c y2 hg0
      clear x0 x1 x2 y0 y1 y2
      by_cases hc : ltP y x = true
      · have hcz : decide (cmpP y x < 0) = true := by rw [cmpP_lt, hc]
        have HC := Lib.hid hc
        have hcz2 : cmpP y x < 0 := of_decide_eq_true hcz
        clear hc
        go_wp2_with fail
        refine wp_region_quiet_later (by assumption) (by kernel_rfl) ?_
        repeat (quiet_step ((go_at_call 52; exact Calls.later_of (cmp28 y x _))))
        refine wpQuiet_nil ?_
        rintro _ ⟨p, rfl⟩
        have HRp := Lib.hid (HRow.out.to p.h)
        have HBp := Lib.hid (HBel.out.trans (p.h.mono (Nat.le_trans hB (Nat.le_of_lt hg0))))
        clear k0 k1 k2 l0 l1 l2
        go_wp2
        go_roundw
        case rel =>
          refine ⟨i, h, rfl, rfl, hai, hi1, by omega, Lib.hid ⟨HI.out.1, fun _ x' y' hx' hy' => ?_⟩, HRp.out, HBp.out⟩
          rw [HX.out] at hx'; cases hx'
          rw [← HD.out.2, HY.out] at hy'; cases hy'
          exact HC.out
        case measure => simp [intOf]; omega
      · have hc' : ltP y x = false := by simpa using hc
        have hcz : decide (cmpP y x < 0) = false := by rw [cmpP_lt, hc']
        have HC := Lib.hid hc'
        have hcz2 : ¬ cmpP y x < 0 := of_decide_eq_false hcz
        clear hc hc'
        go_wp2_with fail
        refine wp_region_quiet_later (by assumption) (by kernel_rfl) ?_
        repeat (quiet_step ((go_at_call 52; exact Calls.later_of (cmp28 y x _))))
        refine wpQuiet_nil ?_
        rintro _ ⟨p, rfl⟩
        have HRp := Lib.hid (HRow.out.to p.h)
        have HBp := Lib.hid (HBel.out.trans (p.h.mono (Nat.le_trans hB (Nat.le_of_lt hg0))))
        clear k0 k1 k2 l0 l1 l2
        go_wp2
        go_roundw
        case rel =>
          refine ⟨h + 1, j, by go_num, rfl, by omega, by omega, hjb, Lib.hid ⟨fun _ x' y' hx' hy' => ?_, HI.out.2⟩, HRp.out, HBp.out⟩
          rw [show h + 1 - 1 - a = h - a by omega, HX.out] at hx'; cases hx'
          rw [show n - (h + 1) - m = d - m by have := HD.out.2; omega, HY.out] at hy'; cases hy'
          exact HC.out
        case measure => simp [intOf]; omega
    · have hltz : ¬ (i : Int) < (j : Int) := by omega
      obtain rfl : i = j := by omega
      obtain ⟨e, he⟩ : ∃ e, e = n - i := ⟨_, rfl⟩
      have e1 : m ≤ e ∧ e ≤ b ∧ mid ≤ e := by omega
      have hze : (n : Int) - (i : Int) = (e : Int) := by omega
      obtain ⟨L1, L2, R1, R2, HP⟩ : ∃ L1 L2 R1 R2, Hid (L = L1 ++ L2 ∧ R = R1 ++ R2 ∧ L1.length = i - a ∧ R1.length = e - m ∧ SM.mrg ltP L R = SM.mrg ltP L1 R1 ++ SM.mrg ltP L2 R2 ∧ SM.Srt ltP L1 ∧ SM.Srt ltP L2 ∧ SM.Srt ltP R1 ∧ SM.Srt ltP R2 ∧ e = n - i) := by
        obtain ⟨h1, h2, h3, h4, h5, _⟩ := HI0.out
        refine ⟨L.take (i - a), L.drop (i - a), R.take (e - m), R.drop (e - m), Lib.hid ⟨by simp, by simp, by rw [List.length_take]; omega, by rw [List.length_take]; omega, ?_, srt_take HSL.out _, srt_drop HSL.out _, srt_take HSR.out _, srt_drop HSR.out _, he⟩⟩
        refine four_parts HSL.out HSR.out (by omega) (by omega) (fun k1 k2 x y hx hy => ?_) (fun k1 k2 x y hx hy => ?_)
        · exact HI.out.1 (by omega) x y (by rw [show i - 1 - a = i - a - 1 by omega]; exact hx) (by rw [show n - i - m = e - m by omega]; exact hy)
        · exact HI.out.2 (by omega) x y hx (by rw [show n - 1 - i - m = e - m - 1 by omega]; exact hy)
      have HRow := Lib.hid hRow
      have HBel := Lib.hid hBel
      clear hRow hBel hlt HI he
      by_cases hr : i < m ∧ m < e
      · obtain ⟨hra, hrb⟩ := hr
        have j5 : decide ((i : Int) < (m : Int)) = true := decide_eq_true (by omega)
        have j6 : decide ((m : Int) < (e : Int)) = true := decide_eq_true (by omega)
        go_wp2_with fail
        obtain ⟨h1, h2, h3, h4, h5, h6, h7, h8, h9, h10⟩ := HP.out
        obtain ⟨i1, i2, i3, i4, i5, i6, i7⟩ := HI0.out
        have hL2 : L1.length + L2.length = L.length := by rw [h1, List.length_append]
        have hR2 : R1.length + R2.length = R.length := by rw [h2, List.length_append]
        have hrow0 := HRow.out
        rw [h1, h2] at hrow0
        refine (rotateZ _ g rest len cap (pre ++ L1) L2 R1 (R2 ++ post) _ B hB (by simpa using hrow0) (by simp only [List.length_append] at i7 ⊢; omega) hmax (by omega) (by omega) _ _ _ (by simp only [List.length_append]; omega) (by simp only [List.length_append]; omega) (by simp only [List.length_append]; omega)).mono ?_
        rintro er w1 ⟨rfl, hR1w, hB1w⟩
        have HRow1 : Hid (Row w1 g rest (pre ++ (L1 ++ (R1 ++ (L2 ++ (R2 ++ post)))))) := Lib.hid (by simpa using hR1w)
        have HBel1 := Lib.hid (HBel.out.trans hB1w)
        clear h1 h2 h3 h4 h5 h6 h7 h8 h9 h10 i1 i2 i3 i4 i5 i6 i7 hL2 hR2 hR1w hB1w hrow0
        by_cases hc1 : a < i ∧ i < mid
        · obtain ⟨hc1a, hc1b⟩ := hc1
          have j3 : decide ((a : Int) < (i : Int)) = true := decide_eq_true (by omega)
          have j4 : decide ((i : Int) < (mid : Int)) = true := decide_eq_true (by omega)
          go_wp2_with fail
          all_goals
            obtain ⟨h1, h2, h3, h4, h5, h6, h7, h8, h9, h10⟩ := HP.out
            obtain ⟨i1, i2, i3, i4, i5, i6, i7⟩ := HI0.out
            have hL2 : L1.length + L2.length = L.length := by rw [h1, List.length_append]
            have hR2 : R1.length + R2.length = R.length := by rw [h2, List.length_append]
            refine (IH.out g rest len cap pre L1 R1 (L2 ++ (R2 ++ post)) _ B (by omega) hB (by simpa using HRow1.out) (by simp only [List.length_append] at i7 ⊢; omega) hmax h6 h8 (by omega) (by omega) _ _ _ (by omega) (by omega) (by omega)).mono ?_
            rintro er w2 ⟨rfl, hR2w, hB2w⟩
            have HRow2 : Hid (Row w2 g rest (pre ++ (SM.mrg ltP L1 R1 ++ (L2 ++ (R2 ++ post))))) := Lib.hid hR2w
            have HBel2 := Lib.hid (HBel1.out.trans hB2w)
            clear h1 h2 h3 h4 h5 h6 h7 h8 h9 h10 i1 i2 i3 i4 i5 i6 i7 hL2 hR2 hR2w hB2w
            by_cases hc2 : mid < e ∧ e < b
            · obtain ⟨hc2a, hc2b⟩ := hc2
              have j1 : decide ((mid : Int) < (e : Int)) = true := decide_eq_true (by omega)
              have j2 : decide ((e : Int) < (b : Int)) = true := decide_eq_true (by omega)
              go_wp2_with fail
              all_goals
                obtain ⟨h1, h2, h3, h4, h5, h6, h7, h8, h9, h10⟩ := HP.out
                obtain ⟨i1, i2, i3, i4, i5, i6, i7⟩ := HI0.out
                have hL2 : L1.length + L2.length = L.length := by rw [h1, List.length_append]
                have hR2 : R1.length + R2.length = R.length := by rw [h2, List.length_append]
                refine (IH.out g rest len cap (pre ++ SM.mrg ltP L1 R1) L2 R2 post _ B (by omega) hB (by simpa using HRow2.out) (by simp only [List.length_append, SM.mrg_length] at i7 ⊢; omega) hmax h7 h9 (by omega) (by omega) _ _ _ (by simp only [List.length_append, SM.mrg_length]; omega) (by simp only [List.length_append, SM.mrg_length]; omega) (by simp only [List.length_append, SM.mrg_length]; omega)).mono ?_
                rintro er w3 ⟨rfl, hR3, hB3⟩
                have HF : Hid (Row w3 g rest (pre ++ (SM.mrg ltP L R ++ post))) := Lib.hid (by rw [h5]; simpa using hR3)
                have HFB := Lib.hid (HBel2.out.trans hB3)
                clear h1 h2 h3 h4 h5 h6 h7 h8 h9 h10 i1 i2 i3 i4 i5 i6 i7 hL2 hR2 hR3 hB3
                go_wp2
                all_goals (go_end0; exact ⟨rfl, HF.out, HFB.out⟩)
            · by_cases hc2a : mid < e
              · have j1 : decide ((mid : Int) < (e : Int)) = true := decide_eq_true (by omega)
                have j2 : decide ((e : Int) < (b : Int)) = false := decide_eq_false (by omega)
                have HF : Hid (Row _ g rest (pre ++ (SM.mrg ltP L R ++ post))) := Lib.hid (by
                  obtain ⟨h1, h2, h3, h4, h5, h6, h7, h8, h9, h10⟩ := HP.out
                  obtain ⟨i1, i2, i3, i4, i5, i6, i7⟩ := HI0.out
                  have hL2 : L1.length + L2.length = L.length := by rw [h1, List.length_append]
                  have hR2 : R1.length + R2.length = R.length := by rw [h2, List.length_append]
                  have e0 : SM.mrg ltP L2 R2 = L2 ++ R2 := by
                    by_cases hz0 : L2.length = 0
                    · rw [List.eq_nil_of_length_eq_zero hz0, SM.mrg_nil_l, List.nil_append]
                    · rw [List.eq_nil_of_length_eq_zero (show R2.length = 0 by omega), SM.mrg_nil_r, List.append_nil]
                  rw [h5, e0]; simpa using HRow2.out)
                go_wp2
                all_goals (go_end0; exact ⟨rfl, HF.out, HBel2.out⟩)
              · have j1 : decide ((mid : Int) < (e : Int)) = false := decide_eq_false (by omega)
                have HF : Hid (Row _ g rest (pre ++ (SM.mrg ltP L R ++ post))) := Lib.hid (by
                  obtain ⟨h1, h2, h3, h4, h5, h6, h7, h8, h9, h10⟩ := HP.out
                  obtain ⟨i1, i2, i3, i4, i5, i6, i7⟩ := HI0.out
                  have hL2 : L1.length + L2.length = L.length := by rw [h1, List.length_append]
                  have hR2 : R1.length + R2.length = R.length := by rw [h2, List.length_append]
                  have e0 : SM.mrg ltP L2 R2 = L2 ++ R2 := by
                    by_cases hz0 : L2.length = 0
                    · rw [List.eq_nil_of_length_eq_zero hz0, SM.mrg_nil_l, List.nil_append]
                    · rw [List.eq_nil_of_length_eq_zero (show R2.length = 0 by omega), SM.mrg_nil_r, List.append_nil]
                  rw [h5, e0]; simpa using HRow2.out)
                go_wp2
                all_goals (go_end0; exact ⟨rfl, HF.out, HBel2.out⟩)
        · by_cases hc1a : a < i
          · have j3 : decide ((a : Int) < (i : Int)) = true := decide_eq_true (by omega)
            have j4 : decide ((i : Int) < (mid : Int)) = false := decide_eq_false (by omega)
            have HRow2 : Hid (Row _ g rest (pre ++ (SM.mrg ltP L1 R1 ++ (L2 ++ (R2 ++ post))))) := Lib.hid (by
              obtain ⟨h1, h2, h3, h4, h5, h6, h7, h8, h9, h10⟩ := HP.out
              have e0 : SM.mrg ltP L1 R1 = L1 ++ R1 := by
                by_cases hz0 : L1.length = 0
                · rw [List.eq_nil_of_length_eq_zero hz0, SM.mrg_nil_l, List.nil_append]
                · rw [List.eq_nil_of_length_eq_zero (show R1.length = 0 by omega), SM.mrg_nil_r, List.append_nil]
              rw [e0]; simpa using HRow1.out)
            by_cases hc2 : mid < e ∧ e < b
            · obtain ⟨hc2a, hc2b⟩ := hc2
              have j1 : decide ((mid : Int) < (e : Int)) = true := decide_eq_true (by omega)
              have j2 : decide ((e : Int) < (b : Int)) = true := decide_eq_true (by omega)
              go_wp2_with fail
              all_goals
                obtain ⟨h1, h2, h3, h4, h5, h6, h7, h8, h9, h10⟩ := HP.out
                obtain ⟨i1, i2, i3, i4, i5, i6, i7⟩ := HI0.out
                have hL2 : L1.length + L2.length = L.length := by rw [h1, List.length_append]
                have hR2 : R1.length + R2.length = R.length := by rw [h2, List.length_append]
                refine (IH.out g rest len cap (pre ++ SM.mrg ltP L1 R1) L2 R2 post _ B (by omega) hB (by simpa using HRow2.out) (by simp only [List.length_append, SM.mrg_length] at i7 ⊢; omega) hmax h7 h9 (by omega) (by omega) _ _ _ (by simp only [List.length_append, SM.mrg_length]; omega) (by simp only [List.length_append, SM.mrg_length]; omega) (by simp only [List.length_append, SM.mrg_length]; omega)).mono ?_
                rintro er w3 ⟨rfl, hR3, hB3⟩
                have HF : Hid (Row w3 g rest (pre ++ (SM.mrg ltP L R ++ post))) := Lib.hid (by rw [h5]; simpa using hR3)
                have HFB := Lib.hid (HBel1.out.trans hB3)
                clear h1 h2 h3 h4 h5 h6 h7 h8 h9 h10 i1 i2 i3 i4 i5 i6 i7 hL2 hR2 hR3 hB3
                go_wp2
                all_goals (go_end0; exact ⟨rfl, HF.out, HFB.out⟩)
            · by_cases hc2a : mid < e
              · have j1 : decide ((mid : Int) < (e : Int)) = true := decide_eq_true (by omega)
                have j2 : decide ((e : Int) < (b : Int)) = false := decide_eq_false (by omega)
                have HF : Hid (Row _ g rest (pre ++ (SM.mrg ltP L R ++ post))) := Lib.hid (by
                  obtain ⟨h1, h2, h3, h4, h5, h6, h7, h8, h9, h10⟩ := HP.out
                  obtain ⟨i1, i2, i3, i4, i5, i6, i7⟩ := HI0.out
                  have hL2 : L1.length + L2.length = L.length := by rw [h1, List.length_append]
                  have hR2 : R1.length + R2.length = R.length := by rw [h2, List.length_append]
                  have e0 : SM.mrg ltP L2 R2 = L2 ++ R2 := by
                    by_cases hz0 : L2.length = 0
                    · rw [List.eq_nil_of_length_eq_zero hz0, SM.mrg_nil_l, List.nil_append]
                    · rw [List.eq_nil_of_length_eq_zero (show R2.length = 0 by omega), SM.mrg_nil_r, List.append_nil]
                  rw [h5, e0]; simpa using HRow2.out)
                go_wp2
                all_goals (go_end0; exact ⟨rfl, HF.out, HBel1.out⟩)
              · have j1 : decide ((mid : Int) < (e : Int)) = false := decide_eq_false (by omega)
                have HF : Hid (Row _ g rest (pre ++ (SM.mrg ltP L R ++ post))) := Lib.hid (by
                  obtain ⟨h1, h2, h3, h4, h5, h6, h7, h8, h9, h10⟩ := HP.out
                  obtain ⟨i1, i2, i3, i4, i5, i6, i7⟩ := HI0.out
                  have hL2 : L1.length + L2.length = L.length := by rw [h1, List.length_append]
                  have hR2 : R1.length + R2.length = R.length := by rw [h2, List.length_append]
                  have e0 : SM.mrg ltP L2 R2 = L2 ++ R2 := by
                    by_cases hz0 : L2.length = 0
                    · rw [List.eq_nil_of_length_eq_zero hz0, SM.mrg_nil_l, List.nil_append]
                    · rw [List.eq_nil_of_length_eq_zero (show R2.length = 0 by omega), SM.mrg_nil_r, List.append_nil]
                  rw [h5, e0]; simpa using HRow2.out)
                go_wp2
                all_goals (go_end0; exact ⟨rfl, HF.out, HBel1.out⟩)
          · have j3 : decide ((a : Int) < (i : Int)) = false := decide_eq_false (by omega)
            have HRow2 : Hid (Row _ g rest (pre ++ (SM.mrg ltP L1 R1 ++ (L2 ++ (R2 ++ post))))) := Lib.hid (by
              obtain ⟨h1, h2, h3, h4, h5, h6, h7, h8, h9, h10⟩ := HP.out
              have e0 : SM.mrg ltP L1 R1 = L1 ++ R1 := by
                by_cases hz0 : L1.length = 0
                · rw [List.eq_nil_of_length_eq_zero hz0, SM.mrg_nil_l, List.nil_append]
                · rw [List.eq_nil_of_length_eq_zero (show R1.length = 0 by omega), SM.mrg_nil_r, List.append_nil]
              rw [e0]; simpa using HRow1.out)
            by_cases hc2 : mid < e ∧ e < b
            · obtain ⟨hc2a, hc2b⟩ := hc2
              have j1 : decide ((mid : Int) < (e : Int)) = true := decide_eq_true (by omega)
              have j2 : decide ((e : Int) < (b : Int)) = true := decide_eq_true (by omega)
              go_wp2_with fail
              all_goals
                obtain ⟨h1, h2, h3, h4, h5, h6, h7, h8, h9, h10⟩ := HP.out
                obtain ⟨i1, i2, i3, i4, i5, i6, i7⟩ := HI0.out
                have hL2 : L1.length + L2.length = L.length := by rw [h1, List.length_append]
                have hR2 : R1.length + R2.length = R.length := by rw [h2, List.length_append]
                refine (IH.out g rest len cap (pre ++ SM.mrg ltP L1 R1) L2 R2 post _ B (by omega) hB (by simpa using HRow2.out) (by simp only [List.length_append, SM.mrg_length] at i7 ⊢; omega) hmax h7 h9 (by omega) (by omega) _ _ _ (by simp only [List.length_append, SM.mrg_length]; omega) (by simp only [List.length_append, SM.mrg_length]; omega) (by simp only [List.length_append, SM.mrg_length]; omega)).mono ?_
                rintro er w3 ⟨rfl, hR3, hB3⟩
                have HF : Hid (Row w3 g rest (pre ++ (SM.mrg ltP L R ++ post))) := Lib.hid (by rw [h5]; simpa using hR3)
                have HFB := Lib.hid (HBel1.out.trans hB3)
                clear h1 h2 h3 h4 h5 h6 h7 h8 h9 h10 i1 i2 i3 i4 i5 i6 i7 hL2 hR2 hR3 hB3
                go_wp2
                all_goals (go_end0; exact ⟨rfl, HF.out, HFB.out⟩)
            · by_cases hc2a : mid < e
              · have j1 : decide ((mid : Int) < (e : Int)) = true := decide_eq_true (by omega)
                have j2 : decide ((e : Int) < (b : Int)) = false := decide_eq_false (by omega)
                have HF : Hid (Row _ g rest (pre ++ (SM.mrg ltP L R ++ post))) := Lib.hid (by
                  obtain ⟨h1, h2, h3, h4, h5, h6, h7, h8, h9, h10⟩ := HP.out
                  obtain ⟨i1, i2, i3, i4, i5, i6, i7⟩ := HI0.out
                  have hL2 : L1.length + L2.length = L.length := by rw [h1, List.length_append]
                  have hR2 : R1.length + R2.length = R.length := by rw [h2, List.length_append]
                  have e0 : SM.mrg ltP L2 R2 = L2 ++ R2 := by
                    by_cases hz0 : L2.length = 0
                    · rw [List.eq_nil_of_length_eq_zero hz0, SM.mrg_nil_l, List.nil_append]
                    · rw [List.eq_nil_of_length_eq_zero (show R2.length = 0 by omega), SM.mrg_nil_r, List.append_nil]
                  rw [h5, e0]; simpa using HRow2.out)
                go_wp2
                all_goals (go_end0; exact ⟨rfl, HF.out, HBel1.out⟩)
              · have j1 : decide ((mid : Int) < (e : Int)) = false := decide_eq_false (by omega)
                have HF : Hid (Row _ g rest (pre ++ (SM.mrg ltP L R ++ post))) := Lib.hid (by
                  obtain ⟨h1, h2, h3, h4, h5, h6, h7, h8, h9, h10⟩ := HP.out
                  obtain ⟨i1, i2, i3, i4, i5, i6, i7⟩ := HI0.out
                  have hL2 : L1.length + L2.length = L.length := by rw [h1, List.length_append]
                  have hR2 : R1.length + R2.length = R.length := by rw [h2, List.length_append]
                  have e0 : SM.mrg ltP L2 R2 = L2 ++ R2 := by
                    by_cases hz0 : L2.length = 0
                    · rw [List.eq_nil_of_length_eq_zero hz0, SM.mrg_nil_l, List.nil_append]
                    · rw [List.eq_nil_of_length_eq_zero (show R2.length = 0 by omega), SM.mrg_nil_r, List.append_nil]
                  rw [h5, e0]; simpa using HRow2.out)
                go_wp2
                all_goals (go_end0; exact ⟨rfl, HF.out, HBel1.out⟩)
      · by_cases hra : i < m
        · have j5 : decide ((i : Int) < (m : Int)) = true := decide_eq_true (by omega)
          have j6 : decide ((m : Int) < (e : Int)) = false := decide_eq_false (by omega)
          have HRow1 : Hid (Row _ g rest (pre ++ (L1 ++ (R1 ++ (L2 ++ (R2 ++ post)))))) := Lib.hid (by
            obtain ⟨h1, h2, h3, h4, h5, h6, h7, h8, h9, h10⟩ := HP.out
            obtain ⟨i1, i2, i3, i4, i5, i6, i7⟩ := HI0.out
            have hL2 : L1.length + L2.length = L.length := by rw [h1, List.length_append]
            have hrow0 := HRow.out
            rw [h1, h2] at hrow0
            by_cases hz0 : L2.length = 0
            · rw [List.eq_nil_of_length_eq_zero hz0] at hrow0 ⊢; simpa using hrow0
            · rw [List.eq_nil_of_length_eq_zero (show R1.length = 0 by omega)] at hrow0 ⊢; simpa using hrow0)
          by_cases hc1 : a < i ∧ i < mid
          · obtain ⟨hc1a, hc1b⟩ := hc1
            have j3 : decide ((a : Int) < (i : Int)) = true := decide_eq_true (by omega)
            have j4 : decide ((i : Int) < (mid : Int)) = true := decide_eq_true (by omega)
            go_wp2_with fail
            all_goals
              obtain ⟨h1, h2, h3, h4, h5, h6, h7, h8, h9, h10⟩ := HP.out
              obtain ⟨i1, i2, i3, i4, i5, i6, i7⟩ := HI0.out
              have hL2 : L1.length + L2.length = L.length := by rw [h1, List.length_append]
              have hR2 : R1.length + R2.length = R.length := by rw [h2, List.length_append]
              refine (IH.out g rest len cap pre L1 R1 (L2 ++ (R2 ++ post)) _ B (by omega) hB (by simpa using HRow1.out) (by simp only [List.length_append] at i7 ⊢; omega) hmax h6 h8 (by omega) (by omega) _ _ _ (by omega) (by omega) (by omega)).mono ?_
              rintro er w2 ⟨rfl, hR2w, hB2w⟩
              have HRow2 : Hid (Row w2 g rest (pre ++ (SM.mrg ltP L1 R1 ++ (L2 ++ (R2 ++ post))))) := Lib.hid hR2w
              have HBel2 := Lib.hid (HBel.out.trans hB2w)
              clear h1 h2 h3 h4 h5 h6 h7 h8 h9 h10 i1 i2 i3 i4 i5 i6 i7 hL2 hR2 hR2w hB2w
              by_cases hc2 : mid < e ∧ e < b
              · obtain ⟨hc2a, hc2b⟩ := hc2
                have j1 : decide ((mid : Int) < (e : Int)) = true := decide_eq_true (by omega)
                have j2 : decide ((e : Int) < (b : Int)) = true := decide_eq_true (by omega)
                go_wp2_with fail
                all_goals
                  obtain ⟨h1, h2, h3, h4, h5, h6, h7, h8, h9, h10⟩ := HP.out
                  obtain ⟨i1, i2, i3, i4, i5, i6, i7⟩ := HI0.out
                  have hL2 : L1.length + L2.length = L.length := by rw [h1, List.length_append]
                  have hR2 : R1.length + R2.length = R.length := by rw [h2, List.length_append]
                  refine (IH.out g rest len cap (pre ++ SM.mrg ltP L1 R1) L2 R2 post _ B (by omega) hB (by simpa using HRow2.out) (by simp only [List.length_append, SM.mrg_length] at i7 ⊢; omega) hmax h7 h9 (by omega) (by omega) _ _ _ (by simp only [List.length_append, SM.mrg_length]; omega) (by simp only [List.length_append, SM.mrg_length]; omega) (by simp only [List.length_append, SM.mrg_length]; omega)).mono ?_
                  rintro er w3 ⟨rfl, hR3, hB3⟩
                  have HF : Hid (Row w3 g rest (pre ++ (SM.mrg ltP L R ++ post))) := Lib.hid (by rw [h5]; simpa using hR3)
                  have HFB := Lib.hid (HBel2.out.trans hB3)
                  clear h1 h2 h3 h4 h5 h6 h7 h8 h9 h10 i1 i2 i3 i4 i5 i6 i7 hL2 hR2 hR3 hB3
                  go_wp2
                  all_goals (go_end0; exact ⟨rfl, HF.out, HFB.out⟩)
              · by_cases hc2a : mid < e
                · have j1 : decide ((mid : Int) < (e : Int)) = true := decide_eq_true (by omega)
                  have j2 : decide ((e : Int) < (b : Int)) = false := decide_eq_false (by omega)
                  have HF : Hid (Row _ g rest (pre ++ (SM.mrg ltP L R ++ post))) := Lib.hid (by
                    obtain ⟨h1, h2, h3, h4, h5, h6, h7, h8, h9, h10⟩ := HP.out
                    obtain ⟨i1, i2, i3, i4, i5, i6, i7⟩ := HI0.out
                    have hL2 : L1.length + L2.length = L.length := by rw [h1, List.length_append]
                    have hR2 : R1.length + R2.length = R.length := by rw [h2, List.length_append]
                    have e0 : SM.mrg ltP L2 R2 = L2 ++ R2 := by
                      by_cases hz0 : L2.length = 0
                      · rw [List.eq_nil_of_length_eq_zero hz0, SM.mrg_nil_l, List.nil_append]
                      · rw [List.eq_nil_of_length_eq_zero (show R2.length = 0 by omega), SM.mrg_nil_r, List.append_nil]
                    rw [h5, e0]; simpa using HRow2.out)
                  go_wp2
                  all_goals (go_end0; exact ⟨rfl, HF.out, HBel2.out⟩)
                · have j1 : decide ((mid : Int) < (e : Int)) = false := decide_eq_false (by omega)
                  have HF : Hid (Row _ g rest (pre ++ (SM.mrg ltP L R ++ post))) := Lib.hid (by
                    obtain ⟨h1, h2, h3, h4, h5, h6, h7, h8, h9, h10⟩ := HP.out
                    obtain ⟨i1, i2, i3, i4, i5, i6, i7⟩ := HI0.out
                    have hL2 : L1.length + L2.length = L.length := by rw [h1, List.length_append]
                    have hR2 : R1.length + R2.length = R.length := by rw [h2, List.length_append]
                    have e0 : SM.mrg ltP L2 R2 = L2 ++ R2 := by
                      by_cases hz0 : L2.length = 0
                      · rw [List.eq_nil_of_length_eq_zero hz0, SM.mrg_nil_l, List.nil_append]
                      · rw [List.eq_nil_of_length_eq_zero (show R2.length = 0 by omega), SM.mrg_nil_r, List.append_nil]
                    rw [h5, e0]; simpa using HRow2.out)
                  go_wp2
                  all_goals (go_end0; exact ⟨rfl, HF.out, HBel2.out⟩)
          · by_cases hc1a : a < i
            · have j3 : decide ((a : Int) < (i : Int)) = true := decide_eq_true (by omega)
              have j4 : decide ((i : Int) < (mid : Int)) = false := decide_eq_false (by omega)
              have HRow2 : Hid (Row _ g rest (pre ++ (SM.mrg ltP L1 R1 ++ (L2 ++ (R2 ++ post))))) := Lib.hid (by
                obtain ⟨h1, h2, h3, h4, h5, h6, h7, h8, h9, h10⟩ := HP.out
                have e0 : SM.mrg ltP L1 R1 = L1 ++ R1 := by
                  by_cases hz0 : L1.length = 0
                  · rw [List.eq_nil_of_length_eq_zero hz0, SM.mrg_nil_l, List.nil_append]
                  · rw [List.eq_nil_of_length_eq_zero (show R1.length = 0 by omega), SM.mrg_nil_r, List.append_nil]
                rw [e0]; simpa using HRow1.out)
              by_cases hc2 : mid < e ∧ e < b
              · obtain ⟨hc2a, hc2b⟩ := hc2
                have j1 : decide ((mid : Int) < (e : Int)) = true := decide_eq_true (by omega)
                have j2 : decide ((e : Int) < (b : Int)) = true := decide_eq_true (by omega)
                go_wp2_with fail
                all_goals
                  obtain ⟨h1, h2, h3, h4, h5, h6, h7, h8, h9, h10⟩ := HP.out
                  obtain ⟨i1, i2, i3, i4, i5, i6, i7⟩ := HI0.out
                  have hL2 : L1.length + L2.length = L.length := by rw [h1, List.length_append]
                  have hR2 : R1.length + R2.length = R.length := by rw [h2, List.length_append]
                  refine (IH.out g rest len cap (pre ++ SM.mrg ltP L1 R1) L2 R2 post _ B (by omega) hB (by simpa using HRow2.out) (by simp only [List.length_append, SM.mrg_length] at i7 ⊢; omega) hmax h7 h9 (by omega) (by omega) _ _ _ (by simp only [List.length_append, SM.mrg_length]; omega) (by simp only [List.length_append, SM.mrg_length]; omega) (by simp only [List.length_append, SM.mrg_length]; omega)).mono ?_
                  rintro er w3 ⟨rfl, hR3, hB3⟩
                  have HF : Hid (Row w3 g rest (pre ++ (SM.mrg ltP L R ++ post))) := Lib.hid (by rw [h5]; simpa using hR3)
                  have HFB := Lib.hid (HBel.out.trans hB3)
                  clear h1 h2 h3 h4 h5 h6 h7 h8 h9 h10 i1 i2 i3 i4 i5 i6 i7 hL2 hR2 hR3 hB3
                  go_wp2
                  all_goals (go_end0; exact ⟨rfl, HF.out, HFB.out⟩)
              · by_cases hc2a : mid < e
                · have j1 : decide ((mid : Int) < (e : Int)) = true := decide_eq_true (by omega)
                  have j2 : decide ((e : Int) < (b : Int)) = false := decide_eq_false (by omega)
                  have HF : Hid (Row _ g rest (pre ++ (SM.mrg ltP L R ++ post))) := Lib.hid (by
                    obtain ⟨h1, h2, h3, h4, h5, h6, h7, h8, h9, h10⟩ := HP.out
                    obtain ⟨i1, i2, i3, i4, i5, i6, i7⟩ := HI0.out
                    have hL2 : L1.length + L2.length = L.length := by rw [h1, List.length_append]
                    have hR2 : R1.length + R2.length = R.length := by rw [h2, List.length_append]
                    have e0 : SM.mrg ltP L2 R2 = L2 ++ R2 := by
                      by_cases hz0 : L2.length = 0
                      · rw [List.eq_nil_of_length_eq_zero hz0, SM.mrg_nil_l, List.nil_append]
                      · rw [List.eq_nil_of_length_eq_zero (show R2.length = 0 by omega), SM.mrg_nil_r, List.append_nil]
                    rw [h5, e0]; simpa using HRow2.out)
                  go_wp2
                  all_goals (go_end0; exact ⟨rfl, HF.out, HBel.out⟩)
                · have j1 : decide ((mid : Int) < (e : Int)) = false := decide_eq_false (by omega)
                  have HF : Hid (Row _ g rest (pre ++ (SM.mrg ltP L R ++ post))) := Lib.hid (by
                    obtain ⟨h1, h2, h3, h4, h5, h6, h7, h8, h9, h10⟩ := HP.out
                    obtain ⟨i1, i2, i3, i4, i5, i6, i7⟩ := HI0.out
                    have hL2 : L1.length + L2.length = L.length := by rw [h1, List.length_append]
                    have hR2 : R1.length + R2.length = R.length := by rw [h2, List.length_append]
                    have e0 : SM.mrg ltP L2 R2 = L2 ++ R2 := by
                      by_cases hz0 : L2.length = 0
                      · rw [List.eq_nil_of_length_eq_zero hz0, SM.mrg_nil_l, List.nil_append]
                      · rw [List.eq_nil_of_length_eq_zero (show R2.length = 0 by omega), SM.mrg_nil_r, List.append_nil]
                    rw [h5, e0]; simpa using HRow2.out)
                  go_wp2
                  all_goals (go_end0; exact ⟨rfl, HF.out, HBel.out⟩)
            · have j3 : decide ((a : Int) < (i : Int)) = false := decide_eq_false (by omega)
              have HRow2 : Hid (Row _ g rest (pre ++ (SM.mrg ltP L1 R1 ++ (L2 ++ (R2 ++ post))))) := Lib.hid (by
                obtain ⟨h1, h2, h3, h4, h5, h6, h7, h8, h9, h10⟩ := HP.out
                have e0 : SM.mrg ltP L1 R1 = L1 ++ R1 := by
                  by_cases hz0 : L1.length = 0
                  · rw [List.eq_nil_of_length_eq_zero hz0, SM.mrg_nil_l, List.nil_append]
                  · rw [List.eq_nil_of_length_eq_zero (show R1.length = 0 by omega), SM.mrg_nil_r, List.append_nil]
                rw [e0]; simpa using HRow1.out)
              by_cases hc2 : mid < e ∧ e < b
              · obtain ⟨hc2a, hc2b⟩ := hc2
                have j1 : decide ((mid : Int) < (e : Int)) = true := decide_eq_true (by omega)
                have j2 : decide ((e : Int) < (b : Int)) = true := decide_eq_true (by omega)
                go_wp2_with fail
                all_goals
                  obtain ⟨h1, h2, h3, h4, h5, h6, h7, h8, h9, h10⟩ := HP.out
                  obtain ⟨i1, i2, i3, i4, i5, i6, i7⟩ := HI0.out
                  have hL2 : L1.length + L2.length = L.length := by rw [h1, List.length_append]
                  have hR2 : R1.length + R2.length = R.length := by rw [h2, List.length_append]
                  refine (IH.out g rest len cap (pre ++ SM.mrg ltP L1 R1) L2 R2 post _ B (by omega) hB (by simpa using HRow2.out) (by simp only [List.length_append, SM.mrg_length] at i7 ⊢; omega) hmax h7 h9 (by omega) (by omega) _ _ _ (by simp only [List.length_append, SM.mrg_length]; omega) (by simp only [List.length_append, SM.mrg_length]; omega) (by simp only [List.length_append, SM.mrg_length]; omega)).mono ?_
                  rintro er w3 ⟨rfl, hR3, hB3⟩
                  have HF : Hid (Row w3 g rest (pre ++ (SM.mrg ltP L R ++ post))) := Lib.hid (by rw [h5]; simpa using hR3)
                  have HFB := Lib.hid (HBel.out.trans hB3)
                  clear h1 h2 h3 h4 h5 h6 h7 h8 h9 h10 i1 i2 i3 i4 i5 i6 i7 hL2 hR2 hR3 hB3
                  go_wp2
                  all_goals (go_end0; exact ⟨rfl, HF.out, HFB.out⟩)
              · by_cases hc2a : mid < e
                · have j1 : decide ((mid : Int) < (e : Int)) = true := decide_eq_true (by omega)
                  have j2 : decide ((e : Int) < (b : Int)) = false := decide_eq_false (by omega)
                  have HF : Hid (Row _ g rest (pre ++ (SM.mrg ltP L R ++ post))) := Lib.hid (by
                    obtain ⟨h1, h2, h3, h4, h5, h6, h7, h8, h9, h10⟩ := HP.out
                    obtain ⟨i1, i2, i3, i4, i5, i6, i7⟩ := HI0.out
                    have hL2 : L1.length + L2.length = L.length := by rw [h1, List.length_append]
                    have hR2 : R1.length + R2.length = R.length := by rw [h2, List.length_append]
                    have e0 : SM.mrg ltP L2 R2 = L2 ++ R2 := by
                      by_cases hz0 : L2.length = 0
                      · rw [List.eq_nil_of_length_eq_zero hz0, SM.mrg_nil_l, List.nil_append]
                      · rw [List.eq_nil_of_length_eq_zero (show R2.length = 0 by omega), SM.mrg_nil_r, List.append_nil]
                    rw [h5, e0]; simpa using HRow2.out)
                  go_wp2
                  all_goals (go_end0; exact ⟨rfl, HF.out, HBel.out⟩)
                · have j1 : decide ((mid : Int) < (e : Int)) = false := decide_eq_false (by omega)
                  have HF : Hid (Row _ g rest (pre ++ (SM.mrg ltP L R ++ post))) := Lib.hid (by
                    obtain ⟨h1, h2, h3, h4, h5, h6, h7, h8, h9, h10⟩ := HP.out
                    obtain ⟨i1, i2, i3, i4, i5, i6, i7⟩ := HI0.out
                    have hL2 : L1.length + L2.length = L.length := by rw [h1, List.length_append]
                    have hR2 : R1.length + R2.length = R.length := by rw [h2, List.length_append]
                    have e0 : SM.mrg ltP L2 R2 = L2 ++ R2 := by
                      by_cases hz0 : L2.length = 0
                      · rw [List.eq_nil_of_length_eq_zero hz0, SM.mrg_nil_l, List.nil_append]
                      · rw [List.eq_nil_of_length_eq_zero (show R2.length = 0 by omega), SM.mrg_nil_r, List.append_nil]
                    rw [h5, e0]; simpa using HRow2.out)
                  go_wp2
                  all_goals (go_end0; exact ⟨rfl, HF.out, HBel.out⟩)
        · have j5 : decide ((i : Int) < (m : Int)) = false := decide_eq_false (by omega)
          have HRow1 : Hid (Row _ g rest (pre ++ (L1 ++ (R1 ++ (L2 ++ (R2 ++ post)))))) := Lib.hid (by
            obtain ⟨h1, h2, h3, h4, h5, h6, h7, h8, h9, h10⟩ := HP.out
            obtain ⟨i1, i2, i3, i4, i5, i6, i7⟩ := HI0.out
            have hL2 : L1.length + L2.length = L.length := by rw [h1, List.length_append]
            have hrow0 := HRow.out
            rw [h1, h2] at hrow0
            by_cases hz0 : L2.length = 0
            · rw [List.eq_nil_of_length_eq_zero hz0] at hrow0 ⊢; simpa using hrow0
            · rw [List.eq_nil_of_length_eq_zero (show R1.length = 0 by omega)] at hrow0 ⊢; simpa using hrow0)
          by_cases hc1 : a < i ∧ i < mid
          · obtain ⟨hc1a, hc1b⟩ := hc1
            have j3 : decide ((a : Int) < (i : Int)) = true := decide_eq_true (by omega)
            have j4 : decide ((i : Int) < (mid : Int)) = true := decide_eq_true (by omega)
            go_wp2_with fail
            all_goals
              obtain ⟨h1, h2, h3, h4, h5, h6, h7, h8, h9, h10⟩ := HP.out
              obtain ⟨i1, i2, i3, i4, i5, i6, i7⟩ := HI0.out
              have hL2 : L1.length + L2.length = L.length := by rw [h1, List.length_append]
              have hR2 : R1.length + R2.length = R.length := by rw [h2, List.length_append]
              refine (IH.out g rest len cap pre L1 R1 (L2 ++ (R2 ++ post)) _ B (by omega) hB (by simpa using HRow1.out) (by simp only [List.length_append] at i7 ⊢; omega) hmax h6 h8 (by omega) (by omega) _ _ _ (by omega) (by omega) (by omega)).mono ?_
              rintro er w2 ⟨rfl, hR2w, hB2w⟩
              have HRow2 : Hid (Row w2 g rest (pre ++ (SM.mrg ltP L1 R1 ++ (L2 ++ (R2 ++ post))))) := Lib.hid hR2w
              have HBel2 := Lib.hid (HBel.out.trans hB2w)
              clear h1 h2 h3 h4 h5 h6 h7 h8 h9 h10 i1 i2 i3 i4 i5 i6 i7 hL2 hR2 hR2w hB2w
              by_cases hc2 : mid < e ∧ e < b
              · obtain ⟨hc2a, hc2b⟩ := hc2
                have j1 : decide ((mid : Int) < (e : Int)) = true := decide_eq_true (by omega)
                have j2 : decide ((e : Int) < (b : Int)) = true := decide_eq_true (by omega)
                go_wp2_with fail
                all_goals
                  obtain ⟨h1, h2, h3, h4, h5, h6, h7, h8, h9, h10⟩ := HP.out
                  obtain ⟨i1, i2, i3, i4, i5, i6, i7⟩ := HI0.out
                  have hL2 : L1.length + L2.length = L.length := by rw [h1, List.length_append]
                  have hR2 : R1.length + R2.length = R.length := by rw [h2, List.length_append]
                  refine (IH.out g rest len cap (pre ++ SM.mrg ltP L1 R1) L2 R2 post _ B (by omega) hB (by simpa using HRow2.out) (by simp only [List.length_append, SM.mrg_length] at i7 ⊢; omega) hmax h7 h9 (by omega) (by omega) _ _ _ (by simp only [List.length_append, SM.mrg_length]; omega) (by simp only [List.length_append, SM.mrg_length]; omega) (by simp only [List.length_append, SM.mrg_length]; omega)).mono ?_
                  rintro er w3 ⟨rfl, hR3, hB3⟩
                  have HF : Hid (Row w3 g rest (pre ++ (SM.mrg ltP L R ++ post))) := Lib.hid (by rw [h5]; simpa using hR3)
                  have HFB := Lib.hid (HBel2.out.trans hB3)
                  clear h1 h2 h3 h4 h5 h6 h7 h8 h9 h10 i1 i2 i3 i4 i5 i6 i7 hL2 hR2 hR3 hB3
                  go_wp2
                  all_goals (go_end0; exact ⟨rfl, HF.out, HFB.out⟩)
              · by_cases hc2a : mid < e
                · have j1 : decide ((mid : Int) < (e : Int)) = true := decide_eq_true (by omega)
                  have j2 : decide ((e : Int) < (b : Int)) = false := decide_eq_false (by omega)
                  have HF : Hid (Row _ g rest (pre ++ (SM.mrg ltP L R ++ post))) := Lib.hid (by
                    obtain ⟨h1, h2, h3, h4, h5, h6, h7, h8, h9, h10⟩ := HP.out
                    obtain ⟨i1, i2, i3, i4, i5, i6, i7⟩ := HI0.out
                    have hL2 : L1.length + L2.length = L.length := by rw [h1, List.length_append]
                    have hR2 : R1.length + R2.length = R.length := by rw [h2, List.length_append]
                    have e0 : SM.mrg ltP L2 R2 = L2 ++ R2 := by
                      by_cases hz0 : L2.length = 0
                      · rw [List.eq_nil_of_length_eq_zero hz0, SM.mrg_nil_l, List.nil_append]
                      · rw [List.eq_nil_of_length_eq_zero (show R2.length = 0 by omega), SM.mrg_nil_r, List.append_nil]
                    rw [h5, e0]; simpa using HRow2.out)
                  go_wp2
                  all_goals (go_end0; exact ⟨rfl, HF.out, HBel2.out⟩)
                · have j1 : decide ((mid : Int) < (e : Int)) = false := decide_eq_false (by omega)
                  have HF : Hid (Row _ g rest (pre ++ (SM.mrg ltP L R ++ post))) := Lib.hid (by
                    obtain ⟨h1, h2, h3, h4, h5, h6, h7, h8, h9, h10⟩ := HP.out
                    obtain ⟨i1, i2, i3, i4, i5, i6, i7⟩ := HI0.out
                    have hL2 : L1.length + L2.length = L.length := by rw [h1, List.length_append]
                    have hR2 : R1.length + R2.length = R.length := by rw [h2, List.length_append]
                    have e0 : SM.mrg ltP L2 R2 = L2 ++ R2 := by
                      by_cases hz0 : L2.length = 0
                      · rw [List.eq_nil_of_length_eq_zero hz0, SM.mrg_nil_l, List.nil_append]
                      · rw [List.eq_nil_of_length_eq_zero (show R2.length = 0 by omega), SM.mrg_nil_r, List.append_nil]
                    rw [h5, e0]; simpa using HRow2.out)
                  go_wp2
                  all_goals (go_end0; exact ⟨rfl, HF.out, HBel2.out⟩)
          · by_cases hc1a : a < i
            · have j3 : decide ((a : Int) < (i : Int)) = true := decide_eq_true (by omega)
              have j4 : decide ((i : Int) < (mid : Int)) = false := decide_eq_false (by omega)
              have HRow2 : Hid (Row _ g rest (pre ++ (SM.mrg ltP L1 R1 ++ (L2 ++ (R2 ++ post))))) := Lib.hid (by
                obtain ⟨h1, h2, h3, h4, h5, h6, h7, h8, h9, h10⟩ := HP.out
                have e0 : SM.mrg ltP L1 R1 = L1 ++ R1 := by
                  by_cases hz0 : L1.length = 0
                  · rw [List.eq_nil_of_length_eq_zero hz0, SM.mrg_nil_l, List.nil_append]
                  · rw [List.eq_nil_of_length_eq_zero (show R1.length = 0 by omega), SM.mrg_nil_r, List.append_nil]
                rw [e0]; simpa using HRow1.out)
              by_cases hc2 : mid < e ∧ e < b
              · obtain ⟨hc2a, hc2b⟩ := hc2
                have j1 : decide ((mid : Int) < (e : Int)) = true := decide_eq_true (by omega)
                have j2 : decide ((e : Int) < (b : Int)) = true := decide_eq_true (by omega)
                go_wp2_with fail
                all_goals
                  obtain ⟨h1, h2, h3, h4, h5, h6, h7, h8, h9, h10⟩ := HP.out
                  obtain ⟨i1, i2, i3, i4, i5, i6, i7⟩ := HI0.out
                  have hL2 : L1.length + L2.length = L.length := by rw [h1, List.length_append]
                  have hR2 : R1.length + R2.length = R.length := by rw [h2, List.length_append]
                  refine (IH.out g rest len cap (pre ++ SM.mrg ltP L1 R1) L2 R2 post _ B (by omega) hB (by simpa using HRow2.out) (by simp only [List.length_append, SM.mrg_length] at i7 ⊢; omega) hmax h7 h9 (by omega) (by omega) _ _ _ (by simp only [List.length_append, SM.mrg_length]; omega) (by simp only [List.length_append, SM.mrg_length]; omega) (by simp only [List.length_append, SM.mrg_length]; omega)).mono ?_
                  rintro er w3 ⟨rfl, hR3, hB3⟩
                  have HF : Hid (Row w3 g rest (pre ++ (SM.mrg ltP L R ++ post))) := Lib.hid (by rw [h5]; simpa using hR3)
                  have HFB := Lib.hid (HBel.out.trans hB3)
                  clear h1 h2 h3 h4 h5 h6 h7 h8 h9 h10 i1 i2 i3 i4 i5 i6 i7 hL2 hR2 hR3 hB3
                  go_wp2
                  all_goals (go_end0; exact ⟨rfl, HF.out, HFB.out⟩)
              · by_cases hc2a : mid < e
                · have j1 : decide ((mid : Int) < (e : Int)) = true := decide_eq_true (by omega)
                  have j2 : decide ((e : Int) < (b : Int)) = false := decide_eq_false (by omega)
                  have HF : Hid (Row _ g rest (pre ++ (SM.mrg ltP L R ++ post))) := Lib.hid (by
                    obtain ⟨h1, h2, h3, h4, h5, h6, h7, h8, h9, h10⟩ := HP.out
                    obtain ⟨i1, i2, i3, i4, i5, i6, i7⟩ := HI0.out
                    have hL2 : L1.length + L2.length = L.length := by rw [h1, List.length_append]
                    have hR2 : R1.length + R2.length = R.length := by rw [h2, List.length_append]
                    have e0 : SM.mrg ltP L2 R2 = L2 ++ R2 := by
                      by_cases hz0 : L2.length = 0
                      · rw [List.eq_nil_of_length_eq_zero hz0, SM.mrg_nil_l, List.nil_append]
                      · rw [List.eq_nil_of_length_eq_zero (show R2.length = 0 by omega), SM.mrg_nil_r, List.append_nil]
                    rw [h5, e0]; simpa using HRow2.out)
                  go_wp2
                  all_goals (go_end0; exact ⟨rfl, HF.out, HBel.out⟩)
                · have j1 : decide ((mid : Int) < (e : Int)) = false := decide_eq_false (by omega)
                  have HF : Hid (Row _ g rest (pre ++ (SM.mrg ltP L R ++ post))) := Lib.hid (by
                    obtain ⟨h1, h2, h3, h4, h5, h6, h7, h8, h9, h10⟩ := HP.out
                    obtain ⟨i1, i2, i3, i4, i5, i6, i7⟩ := HI0.out
                    have hL2 : L1.length + L2.length = L.length := by rw [h1, List.length_append]
                    have hR2 : R1.length + R2.length = R.length := by rw [h2, List.length_append]
                    have e0 : SM.mrg ltP L2 R2 = L2 ++ R2 := by
                      by_cases hz0 : L2.length = 0
                      · rw [List.eq_nil_of_length_eq_zero hz0, SM.mrg_nil_l, List.nil_append]
                      · rw [List.eq_nil_of_length_eq_zero (show R2.length = 0 by omega), SM.mrg_nil_r, List.append_nil]
                    rw [h5, e0]; simpa using HRow2.out)
                  go_wp2
                  all_goals (go_end0; exact ⟨rfl, HF.out, HBel.out⟩)
            · have j3 : decide ((a : Int) < (i : Int)) = false := decide_eq_false (by omega)
              have HRow2 : Hid (Row _ g rest (pre ++ (SM.mrg ltP L1 R1 ++ (L2 ++ (R2 ++ post))))) := Lib.hid (by
                obtain ⟨h1, h2, h3, h4, h5, h6, h7, h8, h9, h10⟩ := HP.out
                have e0 : SM.mrg ltP L1 R1 = L1 ++ R1 := by
                  by_cases hz0 : L1.length = 0
                  · rw [List.eq_nil_of_length_eq_zero hz0, SM.mrg_nil_l, List.nil_append]
                  · rw [List.eq_nil_of_length_eq_zero (show R1.length = 0 by omega), SM.mrg_nil_r, List.append_nil]
                rw [e0]; simpa using HRow1.out)
              by_cases hc2 : mid < e ∧ e < b
              · obtain ⟨hc2a, hc2b⟩ := hc2
                have j1 : decide ((mid : Int) < (e : Int)) = true := decide_eq_true (by omega)
                have j2 : decide ((e : Int) < (b : Int)) = true := decide_eq_true (by omega)
                go_wp2_with fail
                all_goals
                  obtain ⟨h1, h2, h3, h4, h5, h6, h7, h8, h9, h10⟩ := HP.out
                  obtain ⟨i1, i2, i3, i4, i5, i6, i7⟩ := HI0.out
                  have hL2 : L1.length + L2.length = L.length := by rw [h1, List.length_append]
                  have hR2 : R1.length + R2.length = R.length := by rw [h2, List.length_append]
                  refine (IH.out g rest len cap (pre ++ SM.mrg ltP L1 R1) L2 R2 post _ B (by omega) hB (by simpa using HRow2.out) (by simp only [List.length_append, SM.mrg_length] at i7 ⊢; omega) hmax h7 h9 (by omega) (by omega) _ _ _ (by simp only [List.length_append, SM.mrg_length]; omega) (by simp only [List.length_append, SM.mrg_length]; omega) (by simp only [List.length_append, SM.mrg_length]; omega)).mono ?_
                  rintro er w3 ⟨rfl, hR3, hB3⟩
                  have HF : Hid (Row w3 g rest (pre ++ (SM.mrg ltP L R ++ post))) := Lib.hid (by rw [h5]; simpa using hR3)
                  have HFB := Lib.hid (HBel.out.trans hB3)
                  clear h1 h2 h3 h4 h5 h6 h7 h8 h9 h10 i1 i2 i3 i4 i5 i6 i7 hL2 hR2 hR3 hB3
                  go_wp2
                  all_goals (go_end0; exact ⟨rfl, HF.out, HFB.out⟩)
              · by_cases hc2a : mid < e
                · have j1 : decide ((mid : Int) < (e : Int)) = true := decide_eq_true (by omega)
                  have j2 : decide ((e : Int) < (b : Int)) = false := decide_eq_false (by omega)
                  have HF : Hid (Row _ g rest (pre ++ (SM.mrg ltP L R ++ post))) := Lib.hid (by
                    obtain ⟨h1, h2, h3, h4, h5, h6, h7, h8, h9, h10⟩ := HP.out
                    obtain ⟨i1, i2, i3, i4, i5, i6, i7⟩ := HI0.out
                    have hL2 : L1.length + L2.length = L.length := by rw [h1, List.length_append]
                    have hR2 : R1.length + R2.length = R.length := by rw [h2, List.length_append]
                    have e0 : SM.mrg ltP L2 R2 = L2 ++ R2 := by
                      by_cases hz0 : L2.length = 0
                      · rw [List.eq_nil_of_length_eq_zero hz0, SM.mrg_nil_l, List.nil_append]
                      · rw [List.eq_nil_of_length_eq_zero (show R2.length = 0 by omega), SM.mrg_nil_r, List.append_nil]
                    rw [h5, e0]; simpa using HRow2.out)
                  go_wp2
                  all_goals (go_end0; exact ⟨rfl, HF.out, HBel.out⟩)
                · have j1 : decide ((mid : Int) < (e : Int)) = false := decide_eq_false (by omega)
                  have HF : Hid (Row _ g rest (pre ++ (SM.mrg ltP L R ++ post))) := Lib.hid (by
                    obtain ⟨h1, h2, h3, h4, h5, h6, h7, h8, h9, h10⟩ := HP.out
                    obtain ⟨i1, i2, i3, i4, i5, i6, i7⟩ := HI0.out
                    have hL2 : L1.length + L2.length = L.length := by rw [h1, List.length_append]
                    have hR2 : R1.length + R2.length = R.length := by rw [h2, List.length_append]
                    have e0 : SM.mrg ltP L2 R2 = L2 ++ R2 := by
                      by_cases hz0 : L2.length = 0
                      · rw [List.eq_nil_of_length_eq_zero hz0, SM.mrg_nil_l, List.nil_append]
                      · rw [List.eq_nil_of_length_eq_zero (show R2.length = 0 by omega), SM.mrg_nil_r, List.append_nil]
                    rw [h5, e0]; simpa using HRow2.out)
                  go_wp2
                  all_goals (go_end0; exact ⟨rfl, HF.out, HBel.out⟩)
end Go.Proofs.YtlpkcpacfldfaaaGreat
namespace Go.Proofs.YtlpkcpacfldfaaaGreat
open Go.RowKit N
theorem sym_all : ∀ N, SymUpTo N
  | 0 => fun g rest len cap pre L R post w B hN hB hR hlen hmax hSL hSR hL hRl a m b ha hm hb => by omega
  | N + 1 => fun g rest len cap pre L R post w B hN hB hR hlen hmax hSL hSR hL hRl a m b ha hm hb => by
    subst ha hm hb
    by_cases h1 : L.length = 1
    · obtain ⟨x, rfl⟩ := List.length_eq_one_iff.1 h1
      exact sym_first g rest len cap pre x R post w B hB hR hlen hmax hSR _ _ _ rfl rfl rfl
    · by_cases h2 : R.length = 1
      · obtain ⟨y, rfl⟩ := List.length_eq_one_iff.1 h2
        exact sym_last g rest len cap pre L y post w B hB hR hlen hmax hSL h1 _ _ _ rfl rfl rfl
      · by_cases h3 : (pre.length + (pre.length + L.length + R.length)) / 2 < pre.length + L.length
        · exact sym_big N (sym_all N) g rest len cap pre L R post w B hN hB hR hlen hmax hSL hSR (by omega) (by omega) _ _ _ _ _ _ rfl rfl rfl rfl rfl rfl h3
        · exact sym_small N (sym_all N) g rest len cap pre L R post w B hN hB hR hlen hmax hSL hSR (by omega) (by omega) _ _ _ _ _ _ rfl rfl rfl rfl rfl rfl (by omega)
theorem insertionZ (g : Nat) (rest : List Value) (len cap : Nat) (pre L post : List Pl) (w : World) (B : Nat) (hB : B ≤ g) (hR : Row w g rest (pre ++ (L ++ post))) (hlen : (pre ++ (L ++ post)).length = len) (hmax : len ≤ 35184372088320) (a b : Int) (ha : a = pre.length) (hb : b = (pre.length + L.length : Nat)) :
    Calls Tryz.prog 183 #[.slice (some ⟨g, 0, none⟩) len cap, .int .i64 a, .int .i64 b, CMP] w fun e w' => e = .returned (.tuple #[]) ∧ Row w' g rest (pre ++ (SM.S ltP L ++ post)) ∧ Below B w w' := by
  subst ha hb
  exact insertion g rest len cap pre L post w B hB hR hlen hmax _ _ rfl rfl
theorem SB_step {s : Nat} {D0 Pp Dr D1 D2 : List Pl} (e : Dr = D1 ++ D2) (hl : D1.length = s) (h : ∀ E', SM.SB ltP s Dr E' → SM.SB ltP s D0 (Pp ++ E')) : ∀ E', SM.SB ltP s D2 E' → SM.SB ltP s D0 ((Pp ++ SM.S ltP D1) ++ E') := by
  intro E' hE
  rw [List.append_assoc]
  exact h _ (by rw [e]; exact .more D1 D2 E' hl hE)
set_option maxRecDepth 100000 in
set_option maxHeartbeats 16000000 in
theorem stable (g : Nat) (rest : List Value) (len cap : Nat) (D0 : List Pl) (w : World) (B : Nat) (hB : B ≤ g) (hR : Row w g rest D0) (hlen : D0.length = len) (hmax : len ≤ 35184372088320) :
    Calls Tryz.prog 105 #[.slice (some ⟨g, 0, none⟩) len cap, .int .i64 len, CMP] w fun e w' => e = .returned (.tuple #[]) ∧ Row w' g rest (SM.S ltP D0) ∧ Below B w w' := by
  have HL := Lib.hid hlen
  have HR0 := Lib.hid hR
  clear hR hlen
  unfold CMP
  go_enter Tryz.func105, Tryz.ntmps105
  go_wp2
  go_loopw [7, 8] (fun av bv wr => ∃ (a b : Nat) (Dp Dr Pp : List Pl), av = .int .i64 a ∧ bv = .int .i64 b ∧ a ≤ len ∧ b ≤ a + 20 ∧ a + 20 ≤ b ∧ Hid (D0 = Dp ++ Dr ∧ Dp.length = a ∧ Pp.length = a ∧ (Pp ++ Dr).length = len ∧ ∀ E', SM.SB ltP 20 Dr E' → SM.SB ltP 20 D0 (Pp ++ E')) ∧ Row wr g rest (Pp ++ Dr) ∧ Below B w wr) (fun a _ _ => len - (intOf a).toNat)
  case atStart => exact ⟨0, 20, [], D0, [], rfl, rfl, Nat.zero_le _, by omega, by omega, Lib.hid ⟨rfl, rfl, rfl, by simpa using HL.out, fun E' h => by simpa using h⟩, by simpa using HR0.out, Below.refl _ _⟩
  case round =>
    obtain ⟨a, b, Dp, Dr, Pp, rfl, rfl, hal, hb1, hb2, HI, hRow, hBel⟩ := hrel
    have HRow := Lib.hid hRow
    have HBel := Lib.hid hBel
    clear hRow hBel
    by_cases hbl : b ≤ len
    · have hblz : (b : Int) ≤ (len : Int) := by omega
      go_wp2_with fail
      obtain ⟨h1, h2, h3, h4, h5⟩ := HI.out
      have hDr : Pp.length + Dr.length = len := by rw [← List.length_append]; exact h4
      obtain ⟨D1, D2, rfl, hl1⟩ : ∃ D1 D2, Dr = D1 ++ D2 ∧ D1.length = 20 := ⟨Dr.take 20, Dr.drop 20, by simp, by rw [List.length_take]; omega⟩
      refine (insertionZ g rest len cap Pp D1 D2 _ B hB HRow.out h4 hmax _ _ (by omega) (by omega)).mono ?_
      rintro er w1 ⟨rfl, hR1, hB1⟩
      have hst := SB_step rfl hl1 h5
      have HF : Hid (D0 = (Dp ++ D1) ++ D2 ∧ (Dp ++ D1).length = b ∧ (Pp ++ SM.S ltP D1).length = b ∧ ((Pp ++ SM.S ltP D1) ++ D2).length = len ∧ ∀ E', SM.SB ltP 20 D2 E' → SM.SB ltP 20 D0 ((Pp ++ SM.S ltP D1) ++ E')) := Lib.hid ⟨by rw [h1]; simp, by rw [List.length_append]; omega, by rw [List.length_append, SM.S_length]; omega, by simp only [List.length_append, SM.S_length] at h4 ⊢; omega, hst⟩
      have HR1 : Hid (Row w1 g rest ((Pp ++ SM.S ltP D1) ++ D2)) := Lib.hid (by simpa using hR1)
      have HB1 := Lib.hid (HBel.out.trans hB1)
      clear h1 h2 h3 h4 h5 hDr hl1 hR1 hB1 hst
      go_wp2
      go_roundw
      case rel => exact ⟨b, b + 20, Dp ++ D1, D2, Pp ++ SM.S ltP D1, rfl, by go_num, hbl, by omega, by omega, HF, HR1.out, HB1.out⟩
      case measure => simp [intOf]; omega
    · have hblz : ¬ (b : Int) ≤ (len : Int) := by omega
      go_wp2_with fail
      obtain ⟨h1, h2, h3, h4, h5⟩ := HI.out
      have hDr : Pp.length + Dr.length = len := by rw [← List.length_append]; exact h4
      refine (insertionZ g rest len cap Pp Dr [] _ B hB (by simpa using HRow.out) (by simpa using h4) hmax _ _ (by omega) (by omega)).mono ?_
      rintro er w1 ⟨rfl, hR1, hB1⟩
      have HSB : Hid (SM.SB ltP 20 D0 (Pp ++ SM.S ltP Dr)) := Lib.hid (h5 _ (.last Dr (by omega)))
      have HR1 : Hid (Row w1 g rest (Pp ++ SM.S ltP Dr)) := Lib.hid (by simpa using hR1)
      have HB1 := Lib.hid (HBel.out.trans hB1)
      generalize Pp ++ SM.S ltP Dr = E1 at HSB HR1
      clear h1 h2 h3 h4 h5 hDr hR1 hB1 HRow HBel HI hblz hbl hal hb1 hb2
      go_wp2
      obtain ⟨wo, rfl⟩ : ∃ wo : World, wo = wr := ⟨_, rfl⟩
      go_loopw [6, 7, 8, 9] (fun sv _ _ _ wr => ∃ (s : Nat) (E : List Pl), sv = .int .i64 s ∧ 1 ≤ s ∧ s ≤ 2 * len + 20 ∧ Hid (SM.SB ltP s D0 E) ∧ Row wr g rest E ∧ Below B w wr) (fun sv _ _ _ _ => 2 * len + 20 - (intOf sv).toNat)
      case atStart => exact ⟨20, E1, rfl, by omega, by omega, HSB, HR1.out, HB1.out⟩
      case round =>
        obtain ⟨s, E, rfl, hs1, hs2, HE, hRow, hBel⟩ := hrel
        have HRow := Lib.hid hRow
        have HBel := Lib.hid hBel
        clear hRow hBel HSB HR1 HB1
        by_cases hsl : s < len
        · have hslz : (s : Int) < (len : Int) := by omega
          have ws2 : IntKind.i64.wrap (2 * (s : Int)) = 2 * (s : Int) := IntWalk.i64_in _ (by omega)
          have ws3 : IntKind.i64.wrap ((s : Int) * 2) = (s : Int) * 2 := IntWalk.i64_in _ (by omega)
          go_wp2_with fail
          obtain ⟨wi, rfl⟩ : ∃ wi : World, wi = wr := ⟨_, rfl⟩
          go_loopw [7, 8] (fun av bv wr => ∃ (a b : Nat) (Dp Dr Pp Er : List Pl), av = .int .i64 a ∧ bv = .int .i64 b ∧ a ≤ len ∧ b ≤ a + 2 * s ∧ a + 2 * s ≤ b ∧ Hid (D0 = Dp ++ Dr ∧ Dp.length = a ∧ Pp.length = a ∧ a + Dr.length = len ∧ Er.length = Dr.length ∧ SM.SB ltP s Dr Er ∧ ∀ E', SM.SB ltP (2 * s) Dr E' → SM.SB ltP (2 * s) D0 (Pp ++ E')) ∧ Row wr g rest (Pp ++ Er) ∧ Below B w wr) (fun a _ _ => len - (intOf a).toNat)
          case atStart => exact ⟨0, 2 * s, [], D0, [], E, rfl, by go_num, Nat.zero_le _, by omega, by omega, Lib.hid ⟨rfl, rfl, rfl, by rw [Nat.zero_add]; exact HL.out, HE.out.length, HE.out, fun E' h => by simpa using h⟩, by simpa using HRow.out, HBel.out⟩
          case round =>
            obtain ⟨a, b, Dp, Dr, Pp, Er, rfl, rfl, hal, hb1, hb2, HI, hRow, hBel⟩ := hrel
            have HRow2 := Lib.hid hRow
            have HBel2 := Lib.hid hBel
            have wbs : IntKind.i64.wrap ((b : Int) + 2 * (s : Int)) = (b : Int) + 2 * (s : Int) := IntWalk.i64_in _ (by omega)
            have was : IntKind.i64.wrap ((a : Int) + (s : Int)) = (a : Int) + (s : Int) := IntWalk.i64_in _ (by omega)
            clear hRow hBel
            by_cases hbl : b ≤ len
            · have hblz : (b : Int) ≤ (len : Int) := by omega
              go_wp2_with fail
              obtain ⟨h1, h2, h3, h4, h5, h6, h7⟩ := HI.out
              obtain ⟨D1, Dx, Ex, rfl, hl1, rfl, hx⟩ := h6.first (by omega)
              obtain ⟨D2, D3, E3, rfl, hl2, rfl, h8⟩ := hx.first (by simp only [List.length_append] at h4; omega)
              have hs1 := SM.S_length ltP D1
              have hs2 := SM.S_length ltP D2
              simp only [List.length_append] at h4 h5
              refine (sym_all _ g rest len cap Pp (SM.S ltP D1) (SM.S ltP D2) E3 _ B (Nat.le_refl _) hB (by simpa using HRow2.out) (by simp only [List.length_append]; omega) hmax (SM.S_srt ltP_ord _) (SM.S_srt ltP_ord _) (by omega) (by omega) _ _ _ (by omega) (by omega) (by omega)).mono ?_
              rintro er w1 ⟨rfl, hR1, hB1⟩
              have HF : Hid (D0 = (Dp ++ (D1 ++ D2)) ++ D3 ∧ (Dp ++ (D1 ++ D2)).length = b ∧ (Pp ++ SM.S ltP (D1 ++ D2)).length = b ∧ b + D3.length = len ∧ E3.length = D3.length ∧ SM.SB ltP s D3 E3 ∧ ∀ E', SM.SB ltP (2 * s) D3 E' → SM.SB ltP (2 * s) D0 ((Pp ++ SM.S ltP (D1 ++ D2)) ++ E')) := Lib.hid ⟨by rw [h1]; simp, by simp only [List.length_append]; omega, by simp only [List.length_append, SM.S_length]; omega, by omega, h8.length, h8, SB_step (s := 2 * s) (Dr := D1 ++ (D2 ++ D3)) (by simp) (by simp only [List.length_append]; omega) h7⟩
              have HR1 : Hid (Row w1 g rest ((Pp ++ SM.S ltP (D1 ++ D2)) ++ E3)) := Lib.hid (by rw [SM.S_app ltP_ord]; simpa using hR1)
              have HB1 := Lib.hid (HBel2.out.trans hB1)
              clear h1 h2 h3 h4 h5 h6 h7 h8 hx hl1 hl2 hs1 hs2 hR1 hB1
              go_wp2
              go_roundw
              case rel => exact ⟨b, b + 2 * s, Dp ++ (D1 ++ D2), D3, Pp ++ SM.S ltP (D1 ++ D2), E3, rfl, by go_num, hbl, by omega, by omega, HF, HR1.out, HB1.out⟩
              case measure => simp [intOf]; omega
            · have hblz : ¬ (b : Int) ≤ (len : Int) := by omega
              by_cases hml : a + s < len
              · have hmlz : (a : Int) + (s : Int) < (len : Int) := by omega
                go_wp2_with fail
                obtain ⟨h1, h2, h3, h4, h5, h6, h7⟩ := HI.out
                obtain ⟨D1, D2, E2, rfl, hl1, rfl, h8⟩ := h6.front (by omega)
                simp only [List.length_append] at h4 h5
                have h9 := h8.whole (by omega)
                subst h9
                have hs1 := SM.S_length ltP D1
                have hs2 := SM.S_length ltP D2
                refine (sym_all _ g rest len cap Pp (SM.S ltP D1) (SM.S ltP D2) [] _ B (Nat.le_refl _) hB (by simpa using HRow2.out) (by simp only [List.length_append, List.length_nil]; omega) hmax (SM.S_srt ltP_ord _) (SM.S_srt ltP_ord _) (by omega) (by omega) _ _ _ (by omega) (by omega) (by omega)).mono ?_
                rintro er w1 ⟨rfl, hR1, hB1⟩
                have HF : Hid (SM.SB ltP (s * 2) D0 (Pp ++ SM.S ltP (D1 ++ D2))) := Lib.hid (by rw [Nat.mul_comm]; exact h7 _ (.last _ (by simp only [List.length_append]; omega)))
                have HR1 : Hid (Row w1 g rest (Pp ++ SM.S ltP (D1 ++ D2))) := Lib.hid (by rw [SM.S_app ltP_ord]; simpa using hR1)
                have HB1 := Lib.hid (HBel2.out.trans hB1)
                clear h1 h2 h3 h4 h5 h6 h7 h8 hl1 hs1 hs2 hR1 hB1
                go_wp2
                go_roundw
                case rel => exact ⟨s * 2, Pp ++ SM.S ltP (D1 ++ D2), by go_num, by omega, by omega, HF, HR1.out, HB1.out⟩
                case measure => simp [intOf]; omega
              · have hmlz : ¬ (a : Int) + (s : Int) < (len : Int) := by omega
                have HF : Hid (SM.SB ltP (s * 2) D0 (Pp ++ Er)) := Lib.hid (by
                  obtain ⟨h1, h2, h3, h4, h5, h6, h7⟩ := HI.out
                  rw [Nat.mul_comm, h6.whole (by omega)]
                  exact h7 _ (.last _ (by omega)))
                go_wp2
                go_roundw
                case rel => exact ⟨s * 2, Pp ++ Er, by go_num, by omega, by omega, HF, HRow2.out, HBel2.out⟩
                case measure => simp [intOf]; omega
        · have hslz : ¬ (s : Int) < (len : Int) := by omega
          have HF : Hid (E = SM.S ltP D0) := Lib.hid (HE.out.whole (by have := HL.out; omega))
          go_wp2
          go_end0
          exact ⟨rfl, by rw [← HF.out]; exact HRow.out, HBel.out⟩
end Go.Proofs.YtlpkcpacfldfaaaGreat
namespace Go.Proofs.YtlpkcpacfldfaaaGreat
open Go.RowKit N
set_option maxHeartbeats 1000000 in
theorem sortStable (g : Nat) (rest : List Value) (len cap : Nat) (D0 : List Pl) (w : World) (B : Nat) (hB : B ≤ g) (hR : Row w g rest D0) (hlen : D0.length = len) (hmax : len ≤ 35184372088320) :
    Calls Tryz.prog 51 #[.slice (some ⟨g, 0, none⟩) len cap, CMP] w fun e w' => e = .returned (.tuple #[]) ∧ Row w' g rest (SM.S ltP D0) ∧ Below B w w' := by
  have hl : len ≤ maxLen := by unfold maxLen; omega
  go_enter Tryz.func51, Tryz.ntmps51
  go_wp2_with fail
  refine (stable g rest len cap D0 _ B hB hR hlen hmax).mono ?_
  rintro e w' ⟨rfl, h1, h2⟩
  have H1 := Lib.hid h1
  have H2 := Lib.hid h2
  clear h1 h2 hR hlen
  go_wp2
  go_end0
  exact ⟨rfl, H1.out, H2.out⟩
end Go.Proofs.YtlpkcpacfldfaaaGreat
