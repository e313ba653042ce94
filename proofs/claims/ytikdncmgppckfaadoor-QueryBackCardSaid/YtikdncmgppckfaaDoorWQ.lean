/-
  The walk of bastionlaw11.QueryBack: it answers true for every list of pairs and every text within the form's reach, and changes nothing that was there.
-/
import Derived.Test.YtikdncmgppckfaaDoorMB
import Derived.Test.YtikdncmgppckfaaDoorUtfG
namespace Go.Proofs.YtikdncmgppckfaaDoor
open Go.RowKit
def goodF (x : Fd) : Bool := U.good x.1.data.toList && U.good x.2.data.toList
theorem all_snoc' (l : List Fd) (k : Nat) (h : k < l.length) : (l.take (k + 1)).all goodF = ((l.take k).all goodF && goodF l[k]) := by
  rw [List.take_succ_eq_append_getElem h, List.all_append]; simp
theorem sc_all {l : List Fd} (h : l.all goodF = true) : l.map scF = l := by
  refine (List.map_congr_left (g := id) fun x hx => ?_).trans (List.map_id _)
  have := List.all_eq_true.1 h x hx
  unfold goodF at this
  rw [Bool.and_eq_true] at this
  exact sc_good this.1 this.2
set_option maxHeartbeats 8000000 in
set_option maxRecDepth 100000 in
theorem QueryBack_std (p : Option Addr) (l : List Fd) (cap : Nat) (hcap : l.length ≤ cap) (h32 : cap * 32 ≤ 140737488351232) (hn : p = none → cap = 0) (s : ByteArray) (hs : s.size ≤ 140737488351232) (w : World) (hv : Lst w (.slice p l.length cap) l) (hM : ML w) :
    Calls Tryd.prog 5 #[.slice p l.length cap, .string s] w fun e w' => e = .returned (.bool true) ∧ Below w.heap.size w w' := by
  have HM := Lib.hid hM
  have HV := Lib.hid hv
  obtain ⟨C, hC⟩ : ∃ C, parL s.data.toList = C := ⟨_, rfl⟩
  obtain ⟨rc, hrc⟩ : ∃ r, parI s.data.toList = r := ⟨_, rfl⟩
  have HS := Lib.hid (And.intro hC hrc)
  have HCL := Lib.hid (show C.length ≤ 256 from hC ▸ parL_len _)
  have HCS := Lib.hid (show C.map scF = C from hC ▸ par_sc _)
  have HC0 := Lib.hid (show rc ≠ 0 → C = [] from fun h => by rw [← hC]; unfold parL; rw [hrc, if_neg h])
  clear hv hM hC hrc hn
  by_cases h1 : 256 < l.length
  · have HP := Lib.hid (fun W hW => print_many (.slice p l.length cap) l (by omega) h1 W hW)
    clear h1
    go_enter Tryd.func5, Tryd.ntmps5
    go_wp2_with fail
    refine (lives_is _ HM.out).mono ?_
    rintro e w1 ⟨rfl, hb1⟩
    have HB1 := Lib.hid hb1
    clear hb1
    go_wp2_with fail
    refine (HP.out w1 (HV.out.below HB1.out)).mono ?_
    rintro e w2 ⟨rfl, hb2⟩
    have HB2 := Lib.hid (bel2 HB1.out hb2)
    clear hb2
    go_wp2
    go_ret
    exact ⟨rfl, HB2.out⟩
  by_cases h2 : l.any longF = true
  · have HP := Lib.hid (fun W hW => print_long (.slice p l.length cap) l (by omega) (by omega) h2 W hW)
    clear h1 h2
    go_enter Tryd.func5, Tryd.ntmps5
    go_wp2_with fail
    refine (lives_is _ HM.out).mono ?_
    rintro e w1 ⟨rfl, hb1⟩
    have HB1 := Lib.hid hb1
    clear hb1
    go_wp2_with fail
    refine (HP.out w1 (HV.out.below HB1.out)).mono ?_
    rintro e w2 ⟨rfl, hb2⟩
    have HB2 := Lib.hid (bel2 HB1.out hb2)
    clear hb2
    go_wp2
    go_ret
    exact ⟨rfl, HB2.out⟩
  have hL : l.any longF = false := by simpa using h2
  have h256 : l.length ≤ 256 := by omega
  have HP := Lib.hid (fun W hM hW => print_ok (.slice p l.length cap) l (prL l) rfl h256 hL W hM hW)
  have HLL := Lib.hid (show ∀ x ∈ l, longF x = false from fun x hx => by
    cases h : longF x with
    | false => rfl
    | true => rw [List.any_eq_true.2 ⟨_, hx, h⟩] at hL; cases hL)
  obtain ⟨t, ht⟩ : ∃ t : ByteArray, t = ⟨(prL l).toArray⟩ := ⟨_, rfl⟩
  have htl : t.data.toList = prL l := by rw [ht]
  have hts : t.size = (prL l).length := by rw [← htl, len_list]
  have HPR := Lib.hid (fun h => par_pr (l := l) h256 h)
  rw [← ht] at HP
  have HTT := Lib.hid htl
  have HTS := Lib.hid hts
  have htb : t.size ≤ 25600000 := by
    rw [hts]
    have q1 := prL_len l HLL.out l.length
    rw [List.take_length] at q1
    exact Nat.le_trans q1 (Nat.mul_le_mul_right 100000 h256)
  clear h1 h2 hL ht htl hts
  go_enter Tryd.func5, Tryd.ntmps5
  go_wp2_with fail
  refine (lives_is _ HM.out).mono ?_
  rintro e w1 ⟨rfl, hb1⟩
  have HB1 := Lib.hid hb1
  clear hb1
  go_wp2_with fail
  refine (HP.out w1 (HM.out.to HB1.out) (HV.out.below HB1.out)).mono ?_
  rintro e w2 ⟨rfl, hb2⟩
  have HB2 := Lib.hid (bel2 HB1.out hb2)
  clear hb2
  go_wp2_with fail
  go_loopw [7, 31] (fun s7 s31 wr => ∃ (k : Nat) (g : Bool), k ≤ l.length ∧ s31 = .int .i64 k ∧ s7 = .bool g ∧ Hid ((l.take k).all goodF = g) ∧ Hid (Below w.heap.size w wr)) (fun _ i _ => l.length - (intOf i).toNat)
  case atStart => exact ⟨0, true, by omega, rfl, rfl, Lib.hid rfl, HB2⟩
  case round =>
    obtain ⟨k, g, hk, rfl, rfl, HG, HB⟩ := hrel
    by_cases hlt : k < l.length
    · obtain ⟨p', cap', hpe, hcc⟩ := HV.out.below HB.out
      simp only [Value.slice.injEq] at hpe
      obtain ⟨rfl, -, rfl⟩ := hpe
      obtain ⟨g0, o, rfl, hg, hx, hy⟩ := hcc k l[k] (getF hlt)
      have i1 : (k : Int) < (l.length : Int) := by omega
      have HSN := Lib.hid (all_snoc' l k hlt)
      have HLX := Lib.hid (HLL.out _ (List.getElem_mem hlt))
      clear hcc
      generalize l[k] = f at *
      obtain ⟨a, b⟩ := f
      have hx2 : wr.cell? ⟨g0, o + k * 2, none⟩ = some (.string a) := hx
      have hy2 : wr.cell? ⟨g0, o + k * 2 + 1, none⟩ = some (.string b) := hy
      clear hx hy
      have hlx := HLX.out
      simp only [longF, Bool.or_eq_false_iff, decide_eq_false_iff_not] at hlx
      have HBn := Lib.hid (show Below w.heap.size w (wr.alloc (.cells #[.string a, .string b] 38)) from HB.out.alloc HB.out.size _)
      have f0 : (wr.alloc (.cells #[.string a, .string b] 38)).cell? ⟨wr.heap.size, 0, none⟩ = some (.string a) := cell_of_row _ _ 0 _ _ _ (heap_alloc_new wr _)
      have f1 : (wr.alloc (.cells #[.string a, .string b] 38)).cell? ⟨wr.heap.size, 1, none⟩ = some (.string b) := cell_of_row _ _ 1 _ _ _ (heap_alloc_new wr _)
      cases g with
      | false =>
        go_wp2
        go_roundw
        case rel => exact ⟨k + 1, false, by omega, by go_num, rfl, Lib.hid (by rw [HSN.out, HG.out]; rfl), HBn⟩
        case measure => simp [intOf]; omega
      | true =>
        obtain ⟨b1, hb1⟩ : ∃ b1, U.good a.data.toList = b1 := ⟨_, rfl⟩
        obtain ⟨b2, hb2⟩ : ∃ b2, U.good b.data.toList = b2 := ⟨_, rfl⟩
        have HSN2 := Lib.hid (show (l.take (k + 1)).all goodF = (b1 && b2) by rw [HSN.out, HG.out]; unfold goodF; rw [hb1, hb2]; rfl)
        have HV1 := Lib.hid (fun W => valid_is a b1 hb1 (by unfold maxLen; omega) W)
        have HV2 := Lib.hid (fun W => valid_is b b2 hb2 (by unfold maxLen; omega) W)
        clear hb1 hb2
        go_wp2_with fail
        refine (HV1.out _).mono ?_
        rintro e w3 ⟨rfl, hb3⟩
        have HB3 := Lib.hid (bel2 HBn.out hb3)
        have f1' : w3.cell? ⟨wr.heap.size, 1, none⟩ = some (.string b) := (hb3.cell (p := ⟨wr.heap.size, 1, none⟩) (by simp)).trans f1
        clear hb3
        cases b1 with
        | false =>
          go_wp2
          go_roundw
          case rel => exact ⟨k + 1, false, by omega, by go_num, rfl, Lib.hid (by rw [HSN2.out]; rfl), HB3⟩
          case measure => simp [intOf]; omega
        | true =>
          go_wp2_with fail
          refine (HV2.out _).mono ?_
          rintro e w4 ⟨rfl, hb4⟩
          have HB4 := Lib.hid (bel2 HB3.out hb4)
          clear hb4
          go_wp2
          go_roundw
          case rel => exact ⟨k + 1, b2, by omega, by go_num, rfl, Lib.hid (by rw [HSN2.out]; rfl), HB4⟩
          case measure => simp [intOf]; omega
    · have HGA := Lib.hid (show l.all goodF = g by rw [← HG.out, List.take_of_length_le (by omega)])
      by_cases h6 : t.size ≤ 65536
      · have hpr := HPR.out (by have := HTS.out; omega)
        rw [← HTT.out] at hpr
        have HPA := Lib.hid (fun W hM => parse_any t (by omega) (l.map scF) hpr.2 0 hpr.1 W hM)
        obtain ⟨D, hD⟩ : ∃ D, l.map scF = D := ⟨_, rfl⟩
        have hdl : D.length = l.length := by rw [← hD, List.length_map]
        have HDG := Lib.hid (show g = true → D = l from fun h => by rw [← hD]; exact sc_all (by rw [HGA.out, h]))
        rw [hD] at HPA
        have HDL := Lib.hid hdl
        have i6 : (t.size : Int) ≤ 65536 := by omega
        clear hpr hD hdl
        go_wp2_with fail
        refine (HPA.out _ (HM.out.to HB.out)).mono ?_
        rw [HDL.out]
        rintro e w3 ⟨⟨q3, c3, rfl, ho3⟩, hb3⟩
        have HO3 := Lib.hid ho3
        have HB3 := Lib.hid (bel2 HB.out hb3)
        clear ho3 hb3
        cases g with
        | false =>
          go_wp2_with fail
          refine (parse_any s (by omega) C HS.out.1 rc HS.out.2 w3 (HM.out.to HB3.out)).mono ?_
          rintro e x1 ⟨⟨q6, c6, rfl, ho6⟩, hb6⟩
          have HO6 := Lib.hid ho6
          have HX1 := Lib.hid (bel2 HB3.out hb6)
          clear ho6 hb6
          by_cases r0 : rc = 0
          · subst r0
            have HL6 := Lib.hid (lst_own HO6.out)
            by_cases r1 : C.any longF = true
            · have HQ := Lib.hid (print_long (.slice q6 C.length c6) C (by have := HCL.out; omega) HCL.out r1 x1 HL6.out)
              clear r1
              go_wp2_with fail
              refine HQ.out.mono ?_
              rintro e x2 ⟨rfl, hb7⟩
              have HX2 := Lib.hid (bel2 HX1.out hb7)
              clear hb7
              go_wp2
              go_ret
              exact ⟨rfl, HX2.out⟩
            · have hCL : C.any longF = false := by simpa using r1
              have HQ := Lib.hid (print_ok (.slice q6 C.length c6) C (prL C) rfl HCL.out hCL x1 (HM.out.to HX1.out) HL6.out)
              have hca := prL_len C (fun x hx => by
                cases h : longF x with
                | false => rfl
                | true => rw [List.any_eq_true.2 ⟨_, hx, h⟩] at hCL; cases hCL) C.length
              rw [List.take_length] at hca
              have hca2 : (prL C).length ≤ 25600000 := Nat.le_trans hca (Nat.mul_le_mul_right 100000 HCL.out)
              obtain ⟨u, hu⟩ : ∃ u : ByteArray, u = ⟨(prL C).toArray⟩ := ⟨_, rfl⟩
              have hul : u.data.toList = prL C := by rw [hu]
              have hus : u.size = (prL C).length := by rw [← hul, len_list]
              rw [← hu] at HQ
              have HUL := Lib.hid hul
              have HUS := Lib.hid hus
              have husz : u.size ≤ 25600000 := by omega
              clear r1 hCL hca hca2 hu hul hus
              go_wp2_with fail
              refine HQ.out.mono ?_
              rintro e x2 ⟨rfl, hb7⟩
              have HX2 := Lib.hid (bel2 HX1.out hb7)
              have HO7 := Lib.hid (Ks.own_to HO6.out hb7)
              clear hb7
              by_cases r2 : u.size ≤ 65536
              · have i7 : ¬ (65536 : Int) < (u.size : Int) := by omega
                have hpr := par_pr (l := C) HCL.out (by have := HUS.out; omega)
                rw [← HUL.out, HCS.out] at hpr
                have HPA := Lib.hid (parse_any u (by omega) C hpr.2 0 hpr.1 x2 (HM.out.to HX2.out))
                clear hpr
                go_wp2_with fail
                refine HPA.out.mono ?_
                rintro e x3 ⟨⟨q8, c8, rfl, ho8⟩, hb8⟩
                have HO8 := Lib.hid ho8
                have HX3 := Lib.hid (bel2 HX2.out hb8)
                have HO9 := Lib.hid (Ks.own_to HO7.out hb8)
                clear ho8 hb8
                go_wp2_with fail
                refine (same_isP (.slice q6 C.length c6) (.slice q8 C.length c8) C C true (decide_eq_true rfl) (by have := HCL.out; omega) (by have := HCL.out; omega) x3 (lst_own HO9.out) (lst_own HO8.out)).mono ?_
                rintro e x4 ⟨rfl, hb9⟩
                have HX4 := Lib.hid (bel2 HX3.out hb9)
                clear hb9
                go_wp2
                go_ret
                exact ⟨rfl, HX4.out⟩
              · have i7 : (65536 : Int) < (u.size : Int) := by omega
                go_wp2
                go_ret
                exact ⟨rfl, HX2.out⟩
          · have g0 : (rc == 0) = false := by rw [beq_eq_false_iff_ne]; exact r0
            have g1 : (rc != 0) = true := by simp [g0, bne]
            have hc0 := HC0.out r0
            subst hc0
            go_wp2
            go_ret
            exact ⟨rfl, HX1.out⟩
        | true =>
          have HDE := Lib.hid (HDG.out rfl)
          have HL3 := Lib.hid (show Lst w3 (.slice q3 l.length c3) l from by
            have := lst_own (l := D) (by rw [HDL.out]; exact HO3.out)
            rw [HDE.out] at this
            exact this)
          go_wp2_with fail
          refine (same_isP (.slice q3 l.length c3) (.slice p l.length cap) l l true (decide_eq_true rfl) (by omega) (by omega) w3 HL3.out (HV.out.below HB3.out)).mono ?_
          rintro e w4 ⟨rfl, hb4⟩
          have HB4 := Lib.hid (bel2 HB3.out hb4)
          clear hb4
          go_wp2_with fail
          refine (parse_any s (by omega) C HS.out.1 rc HS.out.2 w4 (HM.out.to HB4.out)).mono ?_
          rintro e x1 ⟨⟨q6, c6, rfl, ho6⟩, hb6⟩
          have HO6 := Lib.hid ho6
          have HX1 := Lib.hid (bel2 HB4.out hb6)
          clear ho6 hb6
          by_cases r0 : rc = 0
          · subst r0
            have HL6 := Lib.hid (lst_own HO6.out)
            by_cases r1 : C.any longF = true
            · have HQ := Lib.hid (print_long (.slice q6 C.length c6) C (by have := HCL.out; omega) HCL.out r1 x1 HL6.out)
              clear r1
              go_wp2_with fail
              refine HQ.out.mono ?_
              rintro e x2 ⟨rfl, hb7⟩
              have HX2 := Lib.hid (bel2 HX1.out hb7)
              clear hb7
              go_wp2
              go_ret
              exact ⟨rfl, HX2.out⟩
            · have hCL : C.any longF = false := by simpa using r1
              have HQ := Lib.hid (print_ok (.slice q6 C.length c6) C (prL C) rfl HCL.out hCL x1 (HM.out.to HX1.out) HL6.out)
              have hca := prL_len C (fun x hx => by
                cases h : longF x with
                | false => rfl
                | true => rw [List.any_eq_true.2 ⟨_, hx, h⟩] at hCL; cases hCL) C.length
              rw [List.take_length] at hca
              have hca2 : (prL C).length ≤ 25600000 := Nat.le_trans hca (Nat.mul_le_mul_right 100000 HCL.out)
              obtain ⟨u, hu⟩ : ∃ u : ByteArray, u = ⟨(prL C).toArray⟩ := ⟨_, rfl⟩
              have hul : u.data.toList = prL C := by rw [hu]
              have hus : u.size = (prL C).length := by rw [← hul, len_list]
              rw [← hu] at HQ
              have HUL := Lib.hid hul
              have HUS := Lib.hid hus
              have husz : u.size ≤ 25600000 := by omega
              clear r1 hCL hca hca2 hu hul hus
              go_wp2_with fail
              refine HQ.out.mono ?_
              rintro e x2 ⟨rfl, hb7⟩
              have HX2 := Lib.hid (bel2 HX1.out hb7)
              have HO7 := Lib.hid (Ks.own_to HO6.out hb7)
              clear hb7
              by_cases r2 : u.size ≤ 65536
              · have i7 : ¬ (65536 : Int) < (u.size : Int) := by omega
                have hpr := par_pr (l := C) HCL.out (by have := HUS.out; omega)
                rw [← HUL.out, HCS.out] at hpr
                have HPA := Lib.hid (parse_any u (by omega) C hpr.2 0 hpr.1 x2 (HM.out.to HX2.out))
                clear hpr
                go_wp2_with fail
                refine HPA.out.mono ?_
                rintro e x3 ⟨⟨q8, c8, rfl, ho8⟩, hb8⟩
                have HO8 := Lib.hid ho8
                have HX3 := Lib.hid (bel2 HX2.out hb8)
                have HO9 := Lib.hid (Ks.own_to HO7.out hb8)
                clear ho8 hb8
                go_wp2_with fail
                refine (same_isP (.slice q6 C.length c6) (.slice q8 C.length c8) C C true (decide_eq_true rfl) (by have := HCL.out; omega) (by have := HCL.out; omega) x3 (lst_own HO9.out) (lst_own HO8.out)).mono ?_
                rintro e x4 ⟨rfl, hb9⟩
                have HX4 := Lib.hid (bel2 HX3.out hb9)
                clear hb9
                go_wp2
                go_ret
                exact ⟨rfl, HX4.out⟩
              · have i7 : (65536 : Int) < (u.size : Int) := by omega
                go_wp2
                go_ret
                exact ⟨rfl, HX2.out⟩
          · have g0 : (rc == 0) = false := by rw [beq_eq_false_iff_ne]; exact r0
            have g1 : (rc != 0) = true := by simp [g0, bne]
            have hc0 := HC0.out r0
            subst hc0
            go_wp2
            go_ret
            exact ⟨rfl, HX1.out⟩
      · have i6 : ¬ (t.size : Int) ≤ 65536 := by omega
        go_wp2_with fail
        refine (parse_any s (by omega) C HS.out.1 rc HS.out.2 wr (HM.out.to HB.out)).mono ?_
        rintro e x1 ⟨⟨q6, c6, rfl, ho6⟩, hb6⟩
        have HO6 := Lib.hid ho6
        have HX1 := Lib.hid (bel2 HB.out hb6)
        clear ho6 hb6
        by_cases r0 : rc = 0
        · subst r0
          have HL6 := Lib.hid (lst_own HO6.out)
          by_cases r1 : C.any longF = true
          · have HQ := Lib.hid (print_long (.slice q6 C.length c6) C (by have := HCL.out; omega) HCL.out r1 x1 HL6.out)
            clear r1
            go_wp2_with fail
            refine HQ.out.mono ?_
            rintro e x2 ⟨rfl, hb7⟩
            have HX2 := Lib.hid (bel2 HX1.out hb7)
            clear hb7
            go_wp2
            go_ret
            exact ⟨rfl, HX2.out⟩
          · have hCL : C.any longF = false := by simpa using r1
            have HQ := Lib.hid (print_ok (.slice q6 C.length c6) C (prL C) rfl HCL.out hCL x1 (HM.out.to HX1.out) HL6.out)
            have hca := prL_len C (fun x hx => by
              cases h : longF x with
              | false => rfl
              | true => rw [List.any_eq_true.2 ⟨_, hx, h⟩] at hCL; cases hCL) C.length
            rw [List.take_length] at hca
            have hca2 : (prL C).length ≤ 25600000 := Nat.le_trans hca (Nat.mul_le_mul_right 100000 HCL.out)
            obtain ⟨u, hu⟩ : ∃ u : ByteArray, u = ⟨(prL C).toArray⟩ := ⟨_, rfl⟩
            have hul : u.data.toList = prL C := by rw [hu]
            have hus : u.size = (prL C).length := by rw [← hul, len_list]
            rw [← hu] at HQ
            have HUL := Lib.hid hul
            have HUS := Lib.hid hus
            have husz : u.size ≤ 25600000 := by omega
            clear r1 hCL hca hca2 hu hul hus
            go_wp2_with fail
            refine HQ.out.mono ?_
            rintro e x2 ⟨rfl, hb7⟩
            have HX2 := Lib.hid (bel2 HX1.out hb7)
            have HO7 := Lib.hid (Ks.own_to HO6.out hb7)
            clear hb7
            by_cases r2 : u.size ≤ 65536
            · have i7 : ¬ (65536 : Int) < (u.size : Int) := by omega
              have hpr := par_pr (l := C) HCL.out (by have := HUS.out; omega)
              rw [← HUL.out, HCS.out] at hpr
              have HPA := Lib.hid (parse_any u (by omega) C hpr.2 0 hpr.1 x2 (HM.out.to HX2.out))
              clear hpr
              go_wp2_with fail
              refine HPA.out.mono ?_
              rintro e x3 ⟨⟨q8, c8, rfl, ho8⟩, hb8⟩
              have HO8 := Lib.hid ho8
              have HX3 := Lib.hid (bel2 HX2.out hb8)
              have HO9 := Lib.hid (Ks.own_to HO7.out hb8)
              clear ho8 hb8
              go_wp2_with fail
              refine (same_isP (.slice q6 C.length c6) (.slice q8 C.length c8) C C true (decide_eq_true rfl) (by have := HCL.out; omega) (by have := HCL.out; omega) x3 (lst_own HO9.out) (lst_own HO8.out)).mono ?_
              rintro e x4 ⟨rfl, hb9⟩
              have HX4 := Lib.hid (bel2 HX3.out hb9)
              clear hb9
              go_wp2
              go_ret
              exact ⟨rfl, HX4.out⟩
            · have i7 : (65536 : Int) < (u.size : Int) := by omega
              go_wp2
              go_ret
              exact ⟨rfl, HX2.out⟩
        · have g0 : (rc == 0) = false := by rw [beq_eq_false_iff_ne]; exact r0
          have g1 : (rc != 0) = true := by simp [g0, bne]
          have hc0 := HC0.out r0
          subst hc0
          go_wp2
          go_ret
          exact ⟨rfl, HX1.out⟩
end Go.Proofs.YtikdncmgppckfaaDoor
