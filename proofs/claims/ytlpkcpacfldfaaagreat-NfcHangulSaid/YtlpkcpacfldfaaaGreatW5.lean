import Derived.Test.YtlpkcpacfldfaaaGreatLI
import Derived.Test.YtlpkcpacfldfaaaGreatGA
namespace Go.Proofs.YtlpkcpacfldfaaaGreat
open Go.RowKit N
theorem chk0 : chk T0 = 0 := by decide +kernel
theorem apR0 (l : List Int) (h : (apl [] l).length ≤ 4096) : apR T0 l = (apl [] l, 0) := by
  unfold apR
  rw [chk0]
  simp only [ne_eq, not_true, if_false]
  exact if_pos h
theorem apR0_one (r : Int) : apR T0 [r] = (apt [] r, 0) := by
  have e : apl [] [r] = apt [] r := by unfold apl; simp
  have hl : (apl [] [r]).length ≤ 4096 := by
    rw [e, apt_nil]
    split
    · have := split_len r; omega
    · simp
  rw [apR0 _ hl, e]
theorem foR0 {l : List Int} (h : (apl [] l).length ≤ 4096) : foR T0 l = (tog T0 (ord (cls T0) (apl [] l)), 0) := by
  unfold foR
  rw [apR0 l h]
  simp
theorem fo_again {l F : List Int} (h : foR T0 l = (F, 0)) : foR T0 F = (F, 0) ∧ isR T0 F = (true, 0) := by
  have hl : (apl [] l).length ≤ 4096 := by
    by_cases hn : (apl [] l).length ≤ 4096
    · exact hn
    · unfold foR apR at h
      rw [chk0] at h
      have e : ¬ (apl T0.pairs l).length ≤ 4096 := hn
      simp [e] at h
  rw [foR0 hl] at h
  injection h with h1 _
  have h2 : apl [] F = apl [] l := by rw [← h1]; exact form_len l
  have h3 : foR T0 F = (F, 0) := by
    rw [foR0 (by rw [h2]; exact hl), h2, h1]
  refine ⟨h3, ?_⟩
  unfold isR
  rw [h3]
  simp
theorem fo_err {l F : List Int} {y : Int} (h : foR T0 l = (F, y)) (hy : y ≠ 0) : F = [] := by
  unfold foR at h
  split at h
  · injection h with h1 _; exact h1.symm
  · injection h with _ h2; exact absurd h2.symm hy
theorem tog_wf {T : Tab} (hP : PairWf T) {l : List Int} (h : Wf32 l) : Wf32 (tog T l) := wf_tgl (fun p hp => (hP p hp).1) l h
theorem foR_wf {T : Tab} (hP : PairWf T) {l : List Int} (h : Wf32 l) : Wf32 (foR T l).1 := by
  unfold foR
  split
  · intro x hx; cases hx
  · exact tog_wf hP (ord_wf (apR_wf hP h) _)
set_option maxRecDepth 20000 in
set_option maxHeartbeats 1000000 in
theorem hangul_syl (r : Int) (v : Value) (l : List Int) (w : World) (h1 : 44032 ≤ r) (h2 : r ≤ 55203) (hr : (Lit.int .i32 r).wf = true) (hv : RunesAt w v l) (hw : Wf32 l) (hl : 4 * l.length ≤ 140737488351232) :
    Calls Tryz.prog 5 #[.int .i32 r, v] w fun e w' => e = .returned (.bool true) ∧ Below w.heap.size w w' := by
  obtain ⟨p, cap, rfl, hc⟩ := id hv
  obtain ⟨A, hA⟩ : ∃ A, apt [] r = A := ⟨_, rfl⟩
  obtain ⟨F, hF⟩ : ∃ F, (foR T0 l).1 = F := ⟨_, rfl⟩
  obtain ⟨y, hy⟩ : ∃ y, (foR T0 l).2 = y := ⟨_, rfl⟩
  have hFl : F.length ≤ 4096 := by rw [← hF]; exact foR_len _ _
  have HFo : Hid (foR T0 l = (F, y)) := Lib.hid (by rw [← hF, ← hy])
  have HFw : Hid (Wf32 F) := Lib.hid (by rw [← hF]; exact foR_wf good0.p hw)
  have HA : Hid (apR T0 [r] = (A, 0)) := Lib.hid (by rw [apR0_one, hA])
  have HV := Lib.hid (And.intro hv (And.intro hw (show l.length ≤ 35184372088320 by omega)))
  have HR1 : Hid (Wf32 [r]) := Lib.hid (fun x hx => by simp only [List.mem_singleton] at hx; subst hx; exact hr)
  have HB0 := Lib.hid (Below.refl w.heap.size w)
  have hsy : syl r = true := by simp [syl]; omega
  have hAs : A = split r := by rw [← hA, apt_nil, if_pos hsy]
  have hsl := split_len r
  have hA2 : ¬ ((A.length : Int) < 2) := by rw [hAs]; omega
  have hA3 : ¬ (3 < (A.length : Int)) := by rw [hAs]; omega
  have hA9 : (A.length : Int) ≠ 0 := by rw [hAs]; omega
  have hA0 : ((A.length : Int) == 0) = false := beq_eq_false_iff_ne.2 hA9
  have hAl : A.length ≤ 3 := by rw [hAs]; omega
  have HS : Hid (tog T0 A = [r] ∧ Wf32 A) := Lib.hid ⟨by rw [hAs]; exact tog_split r hsy, by rw [hAs]; exact split_wf hsy⟩
  have hd1 : decide (44032 ≤ r) = true := decide_eq_true h1
  have hd2 : decide (r ≤ 55203) = true := decide_eq_true h2
  clear hsy hAs hsl h1 h2 hA9
  clear hv hw hc hA hF hy
  go_enter Tryz.func5, Tryz.ntmps5
  go_wp2_with fail
  refine (lives_is _).mono ?_
  rintro e w1 ⟨rfl, hb1⟩
  have HB1 := Lib.hid (bel2 HB0.out hb1)
  clear hb1
  go_wp2_with fail
  have hr0 := runes_lit (l := [r]) (Has.new w1 (.cells #[.int .i32 r] 21)) 1
  have HB2 : Hid (Below w.heap.size w (w1.alloc (.cells #[.int .i32 r] 21))) := Lib.hid (HB1.out.alloc HB1.out.size _)
  refine (apart_is q0 (.slice (some ⟨w1.heap.size, 0, none⟩) 1 1) [r] A 0 HA.out _ hr0 HR1.out (by simp) (tab0 _) good0).mono ?_
  rintro e w2 ⟨v2, rfl, ho2, hb2⟩
  have HB3 := Lib.hid (bel2 HB2.out hb2)
  have HO3 := Lib.hid ho2.at
  obtain ⟨p2, c2, rfl, _⟩ := id ho2.form
  clear ho2 hb2 hr0
  go_wp2_with fail
  refine (together_is q0 (.slice p2 A.length c2) A [r] HS.out.1 _ HO3.out HS.out.2 (by omega) (tab0 _) good0.f good0.p).mono ?_
  rintro e w3 ⟨v3, rfl, ho3, hb3⟩
  have HB4 := Lib.hid (bel2 HB3.out hb3)
  have HO4 := Lib.hid ho3.at
  obtain ⟨p3, c3, rfl, _⟩ := id ho3.form
  clear ho3 hb3
  go_wp2_with fail
  have hr4 := runes_lit (l := [r]) (Has.new w3 (.cells #[.int .i32 r] 21)) 1
  have hb4 := bnew w3 (.cells #[.int .i32 r] 21)
  refine (same_is _ _ [r] [r] true (by simp) (by simp) _ (HO4.out.below hb4) hr4).mono ?_
  rintro e w5 ⟨rfl, hb5⟩
  have HB5 := Lib.hid (bel2 (HB4.out.alloc HB4.out.size _) hb5)
  clear hr4 hb4 hb5
  go_wp2_with fail
  refine (form_is q0 (.slice p l.length cap) l F y HFo.out _ (HV.out.1.below HB5.out) HV.out.2.1 HV.out.2.2 (tab0 _) good0).mono ?_
  rintro e w6 ⟨v6, rfl, ho6, hb6⟩
  have HB6 := Lib.hid (bel2 HB5.out hb6)
  have HO6 := Lib.hid ho6.at
  obtain ⟨p6, c6, rfl, _⟩ := id ho6.form
  clear ho6 hb6
  by_cases hy : y = 0
  · have hyb : (y != 0) = false := by simp [hy]
    have HG : Hid (foR T0 F = (F, 0) ∧ isR T0 F = (true, 0)) := Lib.hid (fo_again (by rw [HFo.out, hy]))
    subst hy
    go_wp2_with fail
    refine (form_is q0 (.slice p6 F.length c6) F F 0 HG.out.1 _ HO6.out HFw.out (by omega) (tab0 _) good0).mono ?_
    rintro e w7 ⟨v7, rfl, ho7, hb7⟩
    have HB7 := Lib.hid (bel2 HB6.out hb7)
    have HO7 := Lib.hid (And.intro (HO6.out.below hb7) ho7.at)
    obtain ⟨p7, c7, rfl, _⟩ := id ho7.form
    clear ho7 hb7
    go_wp2_with fail
    refine (is_is q0 (.slice p6 F.length c6) F true 0 HG.out.2 _ HO7.out.1 HFw.out (by omega) (tab0 _) good0).mono ?_
    rintro e w8 ⟨rfl, hb8⟩
    have HB8 := Lib.hid (bel2 HB7.out hb8)
    have HO8 := Lib.hid (And.intro (HO7.out.1.below hb8) (HO7.out.2.below hb8))
    clear hb8
    go_wp2_with fail
    refine (same_is _ _ F F true (by simp) (by omega) _ HO8.out.1 HO8.out.2).mono ?_
    rintro e w9 ⟨rfl, hb9⟩
    have HB9 := Lib.hid (bel2 HB8.out hb9)
    clear hb9
    go_wp2
    go_ret
    exact ⟨rfl, HB9.out⟩
  · have hyb : (y != 0) = true := by simp [hy]
    have hF0 : F = [] := fo_err HFo.out hy
    have hF1 : ((F.length : Int) == 0) = true := by rw [hF0]; rfl
    clear hy hF0
    go_wp2
    go_ret
    exact ⟨by first | rfl | (rw [ret_bool]; exact hF1) | simp [hF1], HB6.out⟩
set_option maxRecDepth 20000 in
set_option maxHeartbeats 1000000 in
theorem hangul_below (r : Int) (v : Value) (l : List Int) (w : World) (h1 : r < 44032) (hr : (Lit.int .i32 r).wf = true) (hv : RunesAt w v l) (hw : Wf32 l) (hl : 4 * l.length ≤ 140737488351232) :
    Calls Tryz.prog 5 #[.int .i32 r, v] w fun e w' => e = .returned (.bool true) ∧ Below w.heap.size w w' := by
  obtain ⟨p, cap, rfl, hc⟩ := id hv
  obtain ⟨A, hA⟩ : ∃ A, apt [] r = A := ⟨_, rfl⟩
  obtain ⟨F, hF⟩ : ∃ F, (foR T0 l).1 = F := ⟨_, rfl⟩
  obtain ⟨y, hy⟩ : ∃ y, (foR T0 l).2 = y := ⟨_, rfl⟩
  have hFl : F.length ≤ 4096 := by rw [← hF]; exact foR_len _ _
  have HFo : Hid (foR T0 l = (F, y)) := Lib.hid (by rw [← hF, ← hy])
  have HFw : Hid (Wf32 F) := Lib.hid (by rw [← hF]; exact foR_wf good0.p hw)
  have HA : Hid (apR T0 [r] = (A, 0)) := Lib.hid (by rw [apR0_one, hA])
  have HV := Lib.hid (And.intro hv (And.intro hw (show l.length ≤ 35184372088320 by omega)))
  have HR1 : Hid (Wf32 [r]) := Lib.hid (fun x hx => by simp only [List.mem_singleton] at hx; subst hx; exact hr)
  have HB0 := Lib.hid (Below.refl w.heap.size w)
  have hsy : syl r = false := by simp [syl]; omega
  have hAs : A = [r] := by rw [← hA, apt_nil, if_neg (by rw [hsy]; simp)]
  have hA0 : ((A.length : Int) == 0) = false := by rw [hAs]; rfl
  have hAl : A.length ≤ 3 := by rw [hAs]; simp
  have HS : Hid (A = [r] ∧ Wf32 A) := Lib.hid ⟨hAs, by rw [hAs]; exact HR1.out⟩
  have hd1 : decide (44032 ≤ r) = false := decide_eq_false (by omega)
  clear hsy hAs h1
  clear hv hw hc hA hF hy
  go_enter Tryz.func5, Tryz.ntmps5
  go_wp2_with fail
  refine (lives_is _).mono ?_
  rintro e w1 ⟨rfl, hb1⟩
  have HB1 := Lib.hid (bel2 HB0.out hb1)
  clear hb1
  go_wp2_with fail
  have hr0 := runes_lit (l := [r]) (Has.new w1 (.cells #[.int .i32 r] 21)) 1
  have HB2 : Hid (Below w.heap.size w (w1.alloc (.cells #[.int .i32 r] 21))) := Lib.hid (HB1.out.alloc HB1.out.size _)
  refine (apart_is q0 (.slice (some ⟨w1.heap.size, 0, none⟩) 1 1) [r] A 0 HA.out _ hr0 HR1.out (by simp) (tab0 _) good0).mono ?_
  rintro e w2 ⟨v2, rfl, ho2, hb2⟩
  have HB3 := Lib.hid (bel2 HB2.out hb2)
  have HO3 := Lib.hid ho2.at
  obtain ⟨p2, c2, rfl, _⟩ := id ho2.form
  clear ho2 hb2 hr0
  go_wp2_with fail
  have hr4 := runes_lit (l := [r]) (Has.new w2 (.cells #[.int .i32 r] 21)) 1
  have hb4 := bnew w2 (.cells #[.int .i32 r] 21)
  refine (same_is _ _ A [r] true (by rw [HS.out.1]; simp) (by omega) _ (HO3.out.below hb4) hr4).mono ?_
  rintro e w5 ⟨rfl, hb5⟩
  have HB5 := Lib.hid (bel2 (HB3.out.alloc HB3.out.size _) hb5)
  clear hr4 hb4 hb5
  go_wp2_with fail
  refine (form_is q0 (.slice p l.length cap) l F y HFo.out _ (HV.out.1.below HB5.out) HV.out.2.1 HV.out.2.2 (tab0 _) good0).mono ?_
  rintro e w6 ⟨v6, rfl, ho6, hb6⟩
  have HB6 := Lib.hid (bel2 HB5.out hb6)
  have HO6 := Lib.hid ho6.at
  obtain ⟨p6, c6, rfl, _⟩ := id ho6.form
  clear ho6 hb6
  by_cases hy : y = 0
  · have hyb : (y != 0) = false := by simp [hy]
    have HG : Hid (foR T0 F = (F, 0) ∧ isR T0 F = (true, 0)) := Lib.hid (fo_again (by rw [HFo.out, hy]))
    subst hy
    go_wp2_with fail
    refine (form_is q0 (.slice p6 F.length c6) F F 0 HG.out.1 _ HO6.out HFw.out (by omega) (tab0 _) good0).mono ?_
    rintro e w7 ⟨v7, rfl, ho7, hb7⟩
    have HB7 := Lib.hid (bel2 HB6.out hb7)
    have HO7 := Lib.hid (And.intro (HO6.out.below hb7) ho7.at)
    obtain ⟨p7, c7, rfl, _⟩ := id ho7.form
    clear ho7 hb7
    go_wp2_with fail
    refine (is_is q0 (.slice p6 F.length c6) F true 0 HG.out.2 _ HO7.out.1 HFw.out (by omega) (tab0 _) good0).mono ?_
    rintro e w8 ⟨rfl, hb8⟩
    have HB8 := Lib.hid (bel2 HB7.out hb8)
    have HO8 := Lib.hid (And.intro (HO7.out.1.below hb8) (HO7.out.2.below hb8))
    clear hb8
    go_wp2_with fail
    refine (same_is _ _ F F true (by simp) (by omega) _ HO8.out.1 HO8.out.2).mono ?_
    rintro e w9 ⟨rfl, hb9⟩
    have HB9 := Lib.hid (bel2 HB8.out hb9)
    clear hb9
    go_wp2
    go_ret
    exact ⟨rfl, HB9.out⟩
  · have hyb : (y != 0) = true := by simp [hy]
    have hF0 : F = [] := fo_err HFo.out hy
    have hF1 : ((F.length : Int) == 0) = true := by rw [hF0]; rfl
    clear hy hF0
    go_wp2
    go_ret
    exact ⟨by first | rfl | (rw [ret_bool]; exact hF1) | simp [hF1], HB6.out⟩
set_option maxRecDepth 20000 in
set_option maxHeartbeats 1000000 in
theorem hangul_above (r : Int) (v : Value) (l : List Int) (w : World) (h1 : 55203 < r) (hr : (Lit.int .i32 r).wf = true) (hv : RunesAt w v l) (hw : Wf32 l) (hl : 4 * l.length ≤ 140737488351232) :
    Calls Tryz.prog 5 #[.int .i32 r, v] w fun e w' => e = .returned (.bool true) ∧ Below w.heap.size w w' := by
  obtain ⟨p, cap, rfl, hc⟩ := id hv
  obtain ⟨A, hA⟩ : ∃ A, apt [] r = A := ⟨_, rfl⟩
  obtain ⟨F, hF⟩ : ∃ F, (foR T0 l).1 = F := ⟨_, rfl⟩
  obtain ⟨y, hy⟩ : ∃ y, (foR T0 l).2 = y := ⟨_, rfl⟩
  have hFl : F.length ≤ 4096 := by rw [← hF]; exact foR_len _ _
  have HFo : Hid (foR T0 l = (F, y)) := Lib.hid (by rw [← hF, ← hy])
  have HFw : Hid (Wf32 F) := Lib.hid (by rw [← hF]; exact foR_wf good0.p hw)
  have HA : Hid (apR T0 [r] = (A, 0)) := Lib.hid (by rw [apR0_one, hA])
  have HV := Lib.hid (And.intro hv (And.intro hw (show l.length ≤ 35184372088320 by omega)))
  have HR1 : Hid (Wf32 [r]) := Lib.hid (fun x hx => by simp only [List.mem_singleton] at hx; subst hx; exact hr)
  have HB0 := Lib.hid (Below.refl w.heap.size w)
  have hsy : syl r = false := by simp [syl]; omega
  have hAs : A = [r] := by rw [← hA, apt_nil, if_neg (by rw [hsy]; simp)]
  have hA0 : ((A.length : Int) == 0) = false := by rw [hAs]; rfl
  have hAl : A.length ≤ 3 := by rw [hAs]; simp
  have HS : Hid (A = [r] ∧ Wf32 A) := Lib.hid ⟨hAs, by rw [hAs]; exact HR1.out⟩
  have hd1 : decide (44032 ≤ r) = true := decide_eq_true (by omega)
  have hd2 : decide (r ≤ 55203) = false := decide_eq_false (by omega)
  clear hsy hAs h1
  clear hv hw hc hA hF hy
  go_enter Tryz.func5, Tryz.ntmps5
  go_wp2_with fail
  refine (lives_is _).mono ?_
  rintro e w1 ⟨rfl, hb1⟩
  have HB1 := Lib.hid (bel2 HB0.out hb1)
  clear hb1
  go_wp2_with fail
  have hr0 := runes_lit (l := [r]) (Has.new w1 (.cells #[.int .i32 r] 21)) 1
  have HB2 : Hid (Below w.heap.size w (w1.alloc (.cells #[.int .i32 r] 21))) := Lib.hid (HB1.out.alloc HB1.out.size _)
  refine (apart_is q0 (.slice (some ⟨w1.heap.size, 0, none⟩) 1 1) [r] A 0 HA.out _ hr0 HR1.out (by simp) (tab0 _) good0).mono ?_
  rintro e w2 ⟨v2, rfl, ho2, hb2⟩
  have HB3 := Lib.hid (bel2 HB2.out hb2)
  have HO3 := Lib.hid ho2.at
  obtain ⟨p2, c2, rfl, _⟩ := id ho2.form
  clear ho2 hb2 hr0
  go_wp2_with fail
  have hr4 := runes_lit (l := [r]) (Has.new w2 (.cells #[.int .i32 r] 21)) 1
  have hb4 := bnew w2 (.cells #[.int .i32 r] 21)
  refine (same_is _ _ A [r] true (by rw [HS.out.1]; simp) (by omega) _ (HO3.out.below hb4) hr4).mono ?_
  rintro e w5 ⟨rfl, hb5⟩
  have HB5 := Lib.hid (bel2 (HB3.out.alloc HB3.out.size _) hb5)
  clear hr4 hb4 hb5
  go_wp2_with fail
  refine (form_is q0 (.slice p l.length cap) l F y HFo.out _ (HV.out.1.below HB5.out) HV.out.2.1 HV.out.2.2 (tab0 _) good0).mono ?_
  rintro e w6 ⟨v6, rfl, ho6, hb6⟩
  have HB6 := Lib.hid (bel2 HB5.out hb6)
  have HO6 := Lib.hid ho6.at
  obtain ⟨p6, c6, rfl, _⟩ := id ho6.form
  clear ho6 hb6
  by_cases hy : y = 0
  · have hyb : (y != 0) = false := by simp [hy]
    have HG : Hid (foR T0 F = (F, 0) ∧ isR T0 F = (true, 0)) := Lib.hid (fo_again (by rw [HFo.out, hy]))
    subst hy
    go_wp2_with fail
    refine (form_is q0 (.slice p6 F.length c6) F F 0 HG.out.1 _ HO6.out HFw.out (by omega) (tab0 _) good0).mono ?_
    rintro e w7 ⟨v7, rfl, ho7, hb7⟩
    have HB7 := Lib.hid (bel2 HB6.out hb7)
    have HO7 := Lib.hid (And.intro (HO6.out.below hb7) ho7.at)
    obtain ⟨p7, c7, rfl, _⟩ := id ho7.form
    clear ho7 hb7
    go_wp2_with fail
    refine (is_is q0 (.slice p6 F.length c6) F true 0 HG.out.2 _ HO7.out.1 HFw.out (by omega) (tab0 _) good0).mono ?_
    rintro e w8 ⟨rfl, hb8⟩
    have HB8 := Lib.hid (bel2 HB7.out hb8)
    have HO8 := Lib.hid (And.intro (HO7.out.1.below hb8) (HO7.out.2.below hb8))
    clear hb8
    go_wp2_with fail
    refine (same_is _ _ F F true (by simp) (by omega) _ HO8.out.1 HO8.out.2).mono ?_
    rintro e w9 ⟨rfl, hb9⟩
    have HB9 := Lib.hid (bel2 HB8.out hb9)
    clear hb9
    go_wp2
    go_ret
    exact ⟨rfl, HB9.out⟩
  · have hyb : (y != 0) = true := by simp [hy]
    have hF0 : F = [] := fo_err HFo.out hy
    have hF1 : ((F.length : Int) == 0) = true := by rw [hF0]; rfl
    clear hy hF0
    go_wp2
    go_ret
    exact ⟨by first | rfl | (rw [ret_bool]; exact hF1) | simp [hF1], HB6.out⟩
theorem NfcHangul_walk (r : Int) (v : Value) (l : List Int) (w : World) (hr : (Lit.int .i32 r).wf = true) (hv : RunesAt w v l) (hw : Wf32 l) (hl : 4 * l.length ≤ 140737488351232) :
    Calls Tryz.prog 5 #[.int .i32 r, v] w fun e w' => e = .returned (.bool true) ∧ Below w.heap.size w w' := by
  by_cases h1 : r < 44032
  · exact hangul_below r v l w h1 hr hv hw hl
  · by_cases h2 : 55203 < r
    · exact hangul_above r v l w h2 hr hv hw hl
    · exact hangul_syl r v l w (by omega) (by omega) hr hv hw hl
end Go.Proofs.YtlpkcpacfldfaaaGreat
