/-
  The document's Together (nfc).
-/
import Derived.Test.YtbclodbneonipaaGreatNA4M
namespace Go.Proofs.YtbclodbneonipaaGreat
open Go.RowKit N
theorem lastC_nil (T : Tab) : lastC T [] = 0 := rfl
theorem rstep_some {T : Tab} {O : List Int} {s r x : Int} (h : 0 ≤ s ∧ (s = (O.length : Int) - 1 ∨ (lastC T O ≠ 0 ∧ lastC T O < cls T r))) (hb : both T (O.getD s.toNat 0) r = some x) : rstep T (O, s) r = (O.set s.toNat x, s) := by
  unfold rstep
  simp only
  rw [if_pos h, hb]
theorem rstep_none {T : Tab} {O : List Int} {s r : Int} (hb : both T (O.getD s.toNat 0) r = none) : rstep T (O, s) r = (O ++ [r], if cls T r = 0 then (O.length : Int) else s) := by
  unfold rstep
  simp only
  split
  · rw [hb]
  · rfl
theorem rstep_far {T : Tab} {O : List Int} {s r : Int} (h : ¬ (0 ≤ s ∧ (s = (O.length : Int) - 1 ∨ (lastC T O ≠ 0 ∧ lastC T O < cls T r)))) : rstep T (O, s) r = (O ++ [r], if cls T r = 0 then (O.length : Int) else s) := by
  unfold rstep
  simp only
  rw [if_neg h]
set_option maxRecDepth 20000 in
set_option maxHeartbeats 16000000 in
/-- the document's Together -/
theorem rtogether_is (q : TQ) (v : Value) (l L : List Int) (hL : (rtg q.T l).1 = L) (w : World) (hv : RunesAt w v l) (hl : (l.length + 1) * 4 ≤ 140737488355328) (hT : TabAt w q) (hf : Fit q.T) :
    Calls Tryz.prog 19 #[q.v, v] w fun e w' => ∃ v', e = .returned v' ∧ Own w' w.heap.size v' L ∧ Below w.heap.size w w' := by
  obtain ⟨p, cap, rfl, hc⟩ := hv
  obtain ⟨i0, hi, hz0, hz1, hz2⟩ := info_parts infoRune
  obtain ⟨n, hn⟩ : ∃ n, l.length = n := ⟨_, rfl⟩
  rw [hn] at hl ⊢
  have HN := Lib.hid hn
  have HC := Lib.hid hc
  have HL := Lib.hid hL
  have HF := Lib.hid hf
  obtain ⟨X, hX⟩ : ∃ X, w.alloc (.cells q.cs 28) = X := ⟨_, rfl⟩
  have HBX := Lib.hid (show Below w.heap.size w X from hX ▸ bnew w _)
  have HX := Lib.hid (show Has X w.heap.size (.cells q.cs 28) from hX ▸ Has.new w _)
  have HTX := Lib.hid (hT.below HBX.out)
  unfold TQ.cs at hX
  unfold TQ.v
  clear hc hL hT hf hn
  go_enter Tryz.func19, Tryz.ntmps19
  go_wp2_with fail
  go_loopw [5, 6, 15] (fun ov sv iv wr => ∃ (k : Nat) (O : List Int) (s : Int) (po : Option Addr) (co : Nat), k ≤ n ∧ iv = .int .i64 k ∧ ov = .slice po O.length co ∧ sv = .int .i64 s ∧ O.length ≤ k ∧ -1 ≤ s ∧ s < O.length ∧ Hid (rtg q.T (l.take k) = (O, s)) ∧ Hid (Own wr X.heap.size (.slice po O.length co) O) ∧ Hid (Below X.heap.size X wr)) (fun _ _ iv _ => n - (intOf iv).toNat)
  case atStart => exact ⟨0, [], -1, none, 0, by omega, rfl, rfl, rfl, by simp, by omega, by simp, Lib.hid rfl, Lib.hid (own_nil _ _), by first | exact Lib.hid (Below.refl _ _) | (rw [hX]; exact Lib.hid (Below.refl _ _))⟩
  case round =>
    clear hX
    rename World => wo
    obtain ⟨k, O, s, po, co, hk, rfl, rfl, rfl, hOk, hs1, hs2, HO, HOW, HB⟩ := hrel
    have HBw := Lib.hid (HBX.out.trans (HB.out.mono HBX.out.size))
    obtain ⟨ol, hol⟩ : ∃ ol, O.length = ol := ⟨_, rfl⟩
    rw [hol] at HOW hOk hs2 ⊢
    have HOL := Lib.hid hol
    clear hol
    by_cases hlt : k < n
    · obtain ⟨r, hr⟩ : ∃ r, l[k]? = some r := ⟨_, List.getElem?_eq_getElem (by rw [HN.out]; exact hlt)⟩
      obtain ⟨g2, o2, rfl, hg2, hcr⟩ := HC.out k r hr
      have i1 : (k : Int) < (n : Int) := by omega
      have r0 : wo.cell? ⟨g2, o2 + k, none⟩ = some (.int .i32 r) := (HBw.out.cell (p := ⟨g2, o2 + k, none⟩) hg2).trans hcr
      have HST := Lib.hid (show rtg q.T (l.take (k + 1)) = rstep q.T (O, s) r from by
        obtain ⟨h1, h2⟩ := List.getElem?_eq_some_iff.1 hr
        rw [take_snoc l k h1, rtg_snoc, HO.out, h2])
      obtain ⟨c, hcc⟩ : ∃ c, cls q.T r = c := ⟨_, rfl⟩
      have HCC := Lib.hid hcc
      have HXo := Lib.hid (HX.out.to HB.out)
      have HTo := Lib.hid (HTX.out.below HB.out)
      have HCL := Lib.hid (rclass_is q r c hcc wo HTo.out HF.out)
      unfold TQ.v at HCL
      clear hr hcr hcc
      have m0 : wo.cell? ⟨w.heap.size, 0, none⟩ = some (.slice q.p0 q.T.spans.length q.c0) := HXo.out.cell 0 rfl
      have m1 : wo.cell? ⟨w.heap.size, 1, none⟩ = some (.slice q.p1 q.T.classes.length q.c1) := HXo.out.cell 1 rfl
      have m2 : wo.cell? ⟨w.heap.size, 2, none⟩ = some (.slice q.p2 q.T.pairs.length q.c2) := HXo.out.cell 2 rfl
      have m3 : wo.cell? ⟨w.heap.size, 3, none⟩ = some (.slice q.p3 q.T.ways.length q.c3) := HXo.out.cell 3 rfl
      have m4 : wo.cell? ⟨w.heap.size, 4, none⟩ = some (.slice q.p4 q.T.joins.length q.c4) := HXo.out.cell 4 rfl
      go_wp2_with fail
      refine HCL.out.mono ?_
      rintro e w1 ⟨rfl, hb1⟩
      have HB1 := Lib.hid (HB.out.trans (hb1.mono HB.out.size))
      have HO1 := Lib.hid (HOW.out.to hb1)
      have HX1 := Lib.hid (HXo.out.to hb1)
      have HT1 := Lib.hid (HTo.out.below hb1)
      clear hb1 m0 m1 m2 m3 m4 r0 HOW HXo HTo HCL
      go_upto_if 24 with fail
      go_cut [10] from 22 to 32 (fun sl wc => ∃ la : Int, sl = .int .u8 la ∧ Hid (la = lastC q.T O) ∧ Hid (Below w1.heap.size w1 wc))
      case first =>
        rcases List.eq_nil_or_concat O with h | ⟨O', a, h⟩
        · subst h
          have h0 : ol = 0 := by rw [← HOL.out]; rfl
          have HLC := Lib.hid (lastC_nil q.T)
          have k1 : ¬ (0 : Int) < (ol : Int) := by omega
          have k2 : ¬ 0 < ol := by omega
          have k3 : decide (0 < ol) = false := decide_eq_false k2
          have H0 := Lib.hid h0
          clear h0
          go_wp2_with fail
          go_meet
          case rel => exact ⟨0, rfl, Lib.hid HLC.out.symm, Lib.hid (Below.refl _ _)⟩
        · rw [List.concat_eq_append] at h
          subst h
          have hOl : (O' ++ [a]).length = O'.length + 1 := by simp
          have hol := HOL.out
          obtain ⟨m, hm⟩ : ∃ m, O'.length = m := ⟨_, rfl⟩
          obtain ⟨go, hgo⟩ : ∃ go, po = some ⟨go, 0, none⟩ := by
            obtain ⟨_, _, e, h⟩ := HO1.out.form
            rw [hol] at e
            simp only [Value.slice.injEq] at e
            obtain ⟨g, h1, _⟩ := h m a (by rw [List.getElem?_append_right (by omega), hm, Nat.sub_self]; rfl)
            exact ⟨g, e.1.trans h1⟩
          subst hgo
          have hom : ol = m + 1 := by omega
          have wk : IntKind.i64.wrap ((ol : Int) - 1) = (m : Int) := by rw [IntWalk.i64_in _ (by omega)]; omega
          have k1 : (0 : Int) < (ol : Int) := by omega
          have k2 : 0 < ol := by omega
          have k3 : decide (0 < ol) = true := decide_eq_true k2
          have hm1 : m < ol := by omega
          obtain ⟨la, hla⟩ : ∃ la, cls q.T a = la := ⟨_, rfl⟩
          have HLA := Lib.hid (show la = lastC q.T (O' ++ [a]) from by rw [lastC_snoc, hla])
          have HCL2 := Lib.hid (fun (p : Later w1) => rclass_is q a la hla p.v (HT1.out.below p.h) HF.out)
          unfold TQ.v at HCL2
          have za : ∀ p : Later w1, p.v.cell? ⟨go, m, none⟩ = some (.int .i32 a) := fun p => (HO1.out.to p.h).cell (by
            rw [List.getElem?_append_right (by omega), hm, Nat.sub_self]; rfl)
          have z0 : ∀ p : Later w1, p.v.cell? ⟨w.heap.size, 0, none⟩ = some (.slice q.p0 q.T.spans.length q.c0) := fun p => (HX1.out.to p.h).cell 0 rfl
          have z1 : ∀ p : Later w1, p.v.cell? ⟨w.heap.size, 1, none⟩ = some (.slice q.p1 q.T.classes.length q.c1) := fun p => (HX1.out.to p.h).cell 1 rfl
          have z2 : ∀ p : Later w1, p.v.cell? ⟨w.heap.size, 2, none⟩ = some (.slice q.p2 q.T.pairs.length q.c2) := fun p => (HX1.out.to p.h).cell 2 rfl
          have z3 : ∀ p : Later w1, p.v.cell? ⟨w.heap.size, 3, none⟩ = some (.slice q.p3 q.T.ways.length q.c3) := fun p => (HX1.out.to p.h).cell 3 rfl
          have z4 : ∀ p : Later w1, p.v.cell? ⟨w.heap.size, 4, none⟩ = some (.slice q.p4 q.T.joins.length q.c4) := fun p => (HX1.out.to p.h).cell 4 rfl
          clear hla hm hOl hOk hom hol
          go_wp2_with fail
          refine wp_region_quiet_later (by kernel_rfl) (by kernel_rfl) ?_
          repeat (go_big_quiet_step (fail))
          go_big_quiet_step ((go_at_call 32; exact Calls.later_of (HCL2.out _)))
          repeat (go_big_quiet_step (fail))
          refine wpQuiet_nil ?_
          rintro _ ⟨p, rfl⟩
          go_wp2_with fail
          go_meet
          case rel => exact ⟨la, rfl, HLA, Lib.hid p.h⟩
      case rest =>
      obtain ⟨la, rfl, HLA, HBc⟩ := hcut
      have HBc2 := Lib.hid (HB1.out.trans (HBc.out.mono HB1.out.size))
      have HO2 := Lib.hid (HO1.out.to HBc.out)
      have HX2 := Lib.hid (HX1.out.to HBc.out)
      have HT2 := Lib.hid (HT1.out.below HBc.out)
      have HCD := Lib.hid (show (0 ≤ s ∧ (s = (O.length : Int) - 1 ∨ (lastC q.T O ≠ 0 ∧ lastC q.T O < cls q.T r))) ↔ (0 ≤ s ∧ (s = (ol : Int) - 1 ∨ (la ≠ 0 ∧ la < c))) from by rw [HOL.out, HLA.out, HCC.out])
      clear HO1 HX1 HT1 HB1 HBc
      go_upto_region 10 with fail
      go_cut [50] from 33 to 50 (fun sb wd => ∃ t : Bool, sb = .bool t ∧ Hid (TB t (0 ≤ s ∧ (s = (ol : Int) - 1 ∨ (la ≠ 0 ∧ la < c)))) ∧ wd = wc)
      case first =>
        have ws : IntKind.i64.wrap ((ol : Int) - 1) = (ol : Int) - 1 := IntWalk.i64_in _ (by omega)
        by_cases a0 : 0 ≤ s
        · have d0 : decide (0 ≤ s) = true := decide_eq_true a0
          by_cases a1 : s = (ol : Int) - 1
          · have d1 : (s == (ol : Int) - 1) = true := beq_iff_eq.2 a1
            have HT := Lib.hid (TB.t (A := 0 ≤ s ∧ (s = (ol : Int) - 1 ∨ (la ≠ 0 ∧ la < c))) ⟨a0, .inl a1⟩)
            have A1 := Lib.hid a1
            clear a1
            go_wp2_with fail
            go_meet
            case rel => exact ⟨true, rfl, HT, rfl⟩
          · have d1 : (s == (ol : Int) - 1) = false := beq_eq_false_iff_ne.2 a1
            by_cases a2 : la = 0
            · have d2 : (la != 0) = false := by simp [a2]
              have d3 : (la == 0) = true := by simp [a2]
              have HT := Lib.hid (TB.f (A := 0 ≤ s ∧ (s = (ol : Int) - 1 ∨ (la ≠ 0 ∧ la < c))) (by rintro ⟨_, h | ⟨h, _⟩⟩ <;> contradiction))
              have A2 := Lib.hid a2
              clear a1 a2
              go_wp2_with fail
              go_meet
              case rel => exact ⟨false, rfl, HT, rfl⟩
            · have d2 : (la != 0) = true := by simpa using a2
              have d3 : (la == 0) = false := by simpa using a2
              by_cases a3 : la < c
              · have d4 : decide (la < c) = true := decide_eq_true a3
                have HT := Lib.hid (TB.t (A := 0 ≤ s ∧ (s = (ol : Int) - 1 ∨ (la ≠ 0 ∧ la < c))) ⟨a0, .inr ⟨a2, a3⟩⟩)
                clear a1 a2
                go_wp2_with fail
                go_meet
                case rel => exact ⟨true, rfl, HT, rfl⟩
              · have d4 : decide (la < c) = false := decide_eq_false a3
                have HT := Lib.hid (TB.f (A := 0 ≤ s ∧ (s = (ol : Int) - 1 ∨ (la ≠ 0 ∧ la < c))) (by rintro ⟨_, h | ⟨_, h⟩⟩ <;> contradiction))
                clear a1 a2
                go_wp2_with fail
                go_meet
                case rel => exact ⟨false, rfl, HT, rfl⟩
        · have d0 : decide (0 ≤ s) = false := decide_eq_false a0
          have HT := Lib.hid (TB.f (A := 0 ≤ s ∧ (s = (ol : Int) - 1 ∨ (la ≠ 0 ∧ la < c))) (fun h => a0 h.1))
          go_wp2_with fail
          go_meet
          case rel => exact ⟨false, rfl, HT, rfl⟩
      case rest =>
      obtain ⟨t, rfl, HT, rfl⟩ := hcut
      cases t with
      | false =>
        have HNE := Lib.hid (show rtg q.T (l.take (k + 1)) = (O ++ [r], if c = 0 then (ol : Int) else s) from by
          rw [HST.out, rstep_far (fun h => HT.out.no (HCD.out.1 h)), HCC.out, HOL.out])
        have HOa := Lib.hid (HO2.out.to (bnew wc (.cells #[.int .i32 r] 21)))
        have HBa := Lib.hid (HBc2.out.alloc HBc2.out.size (.cells #[.int .i32 r] 21))
        have hsa : X.heap.size ≤ (wc.alloc (.cells #[.int .i32 r] 21)).heap.size := HBa.out.size
        have HLr := Lib.hid (own_lit1 wc r)
        have hol := HOL.out
        have HAP := Lib.hid (show (O ++ [r]).length = ol + 1 from by rw [List.length_append, hol, List.length_singleton])
        by_cases hc0 : c = 0
        · have c1 : (c == 0) = true := by simp [hc0]
          have w1 : IntKind.i64.wrap (((ol + 1 : Nat) : Int) - 1) = (ol : Int) := by rw [IntWalk.i64_in _ (by omega)]; omega
          have w2 : IntKind.i64.wrap ((ol : Int) + 1 - 1) = (ol : Int) := by rw [IntWalk.i64_in _ (by omega)]; omega
          have HNE2 := Lib.hid (HNE.out.trans (by rw [if_pos hc0]))
          have HC0 := Lib.hid hc0
          clear hc0
          go_wp2_with (at_builtin; refine wpList_append_runes (by rfl) _ _ rfl X.heap.size i0 Tryz.underlying29 hi hz0 hz1 hz2 (.slice po ol co) O.length (O.map (Value.int .i32)) rfl HOa.out (.slice (some ⟨wc.heap.size, 0, none⟩) 1 1) [r] rfl HLr.out.at (own_nilc HLr.out) (by simp only [List.length_singleton]; unfold maxLen; omega) (by simp only [List.length_singleton]; omega) hsa ?_; intro v6 w6 hown6 hgrow6; have HO6 : Hid (Own w6 X.heap.size v6 (O ++ [r])) := Lib.hid (own_app hown6); have HB6 : Hid (Below X.heap.size X w6) := Lib.hid (bel_grown (v := .slice po ol co) HBa.out HOa.out hgrow6 hsa); clear hown6 hgrow6; obtain ⟨p6, c6, hv6, _⟩ := HO6.out.form; rw [HAP.out] at hv6; subst hv6)
          go_roundw
          case rel => exact ⟨k + 1, O ++ [r], (ol : Int), p6, c6, by omega, by go_num, by rw [HAP.out], by go_num, by rw [HAP.out]; omega, by omega, by rw [HAP.out]; omega, HNE2, by rw [HAP.out]; exact HO6, HB6⟩
          case measure => simp [intOf]; omega
        · have c1 : (c == 0) = false := by simpa using hc0
          have HNE2 := Lib.hid (HNE.out.trans (by rw [if_neg hc0]))
          have HC0 := Lib.hid hc0
          clear hc0
          go_wp2_with (at_builtin; refine wpList_append_runes (by rfl) _ _ rfl X.heap.size i0 Tryz.underlying29 hi hz0 hz1 hz2 (.slice po ol co) O.length (O.map (Value.int .i32)) rfl HOa.out (.slice (some ⟨wc.heap.size, 0, none⟩) 1 1) [r] rfl HLr.out.at (own_nilc HLr.out) (by simp only [List.length_singleton]; unfold maxLen; omega) (by simp only [List.length_singleton]; omega) hsa ?_; intro v6 w6 hown6 hgrow6; have HO6 : Hid (Own w6 X.heap.size v6 (O ++ [r])) := Lib.hid (own_app hown6); have HB6 : Hid (Below X.heap.size X w6) := Lib.hid (bel_grown (v := .slice po ol co) HBa.out HOa.out hgrow6 hsa); clear hown6 hgrow6; obtain ⟨p6, c6, hv6, _⟩ := HO6.out.form; rw [HAP.out] at hv6; subst hv6)
          go_roundw
          case rel => exact ⟨k + 1, O ++ [r], s, p6, c6, by omega, by go_num, by rw [HAP.out], rfl, by rw [HAP.out]; omega, by omega, by rw [HAP.out]; omega, HNE2, by rw [HAP.out]; exact HO6, HB6⟩
          case measure => simp [intOf]; omega
      | true =>
        obtain ⟨hs0, hor⟩ := HT.out.yes
        obtain ⟨sn, rfl⟩ : ∃ sn : Nat, s = (sn : Int) := ⟨s.toNat, by omega⟩
        have hsl : sn < ol := by omega
        have hsi : (sn : Int) < (ol : Int) := by omega
        obtain ⟨b, hb⟩ : ∃ b, O[sn]? = some b := ⟨_, List.getElem?_eq_getElem (by rw [HOL.out]; exact hsl)⟩
        have hgd : O.getD (sn : Int).toNat 0 = b := by rw [Int.toNat_natCast, List.getD_eq_getElem?_getD, hb]; rfl
        obtain ⟨go, hgo⟩ : ∃ go, po = some ⟨go, 0, none⟩ := by
          obtain ⟨_, _, e, h⟩ := HO2.out.form
          simp only [Value.slice.injEq] at e
          obtain ⟨g, h1, _⟩ := h sn b hb
          exact ⟨g, e.1.trans h1⟩
        subst hgo
        obtain ⟨o, ho⟩ : ∃ o, both q.T b r = o := ⟨_, rfl⟩
        have HBO := Lib.hid (fun (p : Later wc) => rboth_is q b r p.v (HT2.out.below p.h) HF.out)
        unfold BothOut TQ.v at HBO
        rw [ho] at HBO
        have zb : ∀ p : Later wc, p.v.cell? ⟨go, sn, none⟩ = some (.int .i32 b) := fun p => (HO2.out.to p.h).cell hb
        have HB9 := Lib.hid (And.intro hb hgd)
        have HCT := Lib.hid (HCD.out.2 HT.out.yes)
        have z0 : ∀ p : Later wc, p.v.cell? ⟨w.heap.size, 0, none⟩ = some (.slice q.p0 q.T.spans.length q.c0) := fun p => (HX2.out.to p.h).cell 0 rfl
        have z1 : ∀ p : Later wc, p.v.cell? ⟨w.heap.size, 1, none⟩ = some (.slice q.p1 q.T.classes.length q.c1) := fun p => (HX2.out.to p.h).cell 1 rfl
        have z2 : ∀ p : Later wc, p.v.cell? ⟨w.heap.size, 2, none⟩ = some (.slice q.p2 q.T.pairs.length q.c2) := fun p => (HX2.out.to p.h).cell 2 rfl
        have z3 : ∀ p : Later wc, p.v.cell? ⟨w.heap.size, 3, none⟩ = some (.slice q.p3 q.T.ways.length q.c3) := fun p => (HX2.out.to p.h).cell 3 rfl
        have z4 : ∀ p : Later wc, p.v.cell? ⟨w.heap.size, 4, none⟩ = some (.slice q.p4 q.T.joins.length q.c4) := fun p => (HX2.out.to p.h).cell 4 rfl
        have HS9 := Lib.hid hs0
        clear hb hgd hor hs0
        cases o with
        | some x =>
          have HNE := Lib.hid (show rtg q.T (l.take (k + 1)) = (O.set sn x, (sn : Int)) from by
            rw [HST.out, rstep_some HCT.out (by rw [HB9.out.2]; exact ho), Int.toNat_natCast])
          simp only [Option.getD_some, Option.isSome_some] at HBO
          clear ho
          go_wp2_with fail
          refine wp_region_quiet_later (by kernel_rfl) (by kernel_rfl) ?_
          repeat (go_big_quiet_step (fail))
          go_big_quiet_step ((go_at_call 34; exact Calls.later_of (HBO.out _)))
          repeat (go_big_quiet_step (fail))
          refine wpQuiet_nil ?_
          rintro we ⟨⟨_, hbe⟩, rfl⟩
          have HBe := Lib.hid (HBc2.out.trans (hbe.mono HBc2.out.size))
          have HOe := Lib.hid (HO2.out.to hbe)
          clear hbe z0 z1 z2 z3 z4 zb
          have lb : we.cell? ⟨go, sn, none⟩ = some (.int .i32 b) := HOe.out.cell HB9.out.1
          have fb := HOe.out.frz sn
          obtain ⟨hgB, hgs⟩ := HOe.out.far (by rw [HOL.out]; omega)
          have HOf := Lib.hid (HOe.out.put sn x)
          have HBf := Lib.hid (HBe.out.setCell (p := ⟨go, sn, none⟩) hgB (.int .i32 x))
          go_wp2_with fail
          go_roundw
          case rel => exact ⟨k + 1, O.set sn x, (sn : Int), _, co, by omega, by go_num, by rw [List.length_set, HOL.out], rfl, by rw [List.length_set, HOL.out]; omega, by omega, by rw [List.length_set, HOL.out]; omega, HNE, by rw [List.length_set, HOL.out]; exact HOf, HBf⟩
          case measure => simp [intOf]; omega
        | none =>
          have HNE := Lib.hid (show rtg q.T (l.take (k + 1)) = (O ++ [r], if c = 0 then (ol : Int) else (sn : Int)) from by
            rw [HST.out, rstep_none (by rw [HB9.out.2]; exact ho), HCC.out, HOL.out])
          simp only [Option.getD_none, Option.isSome_none] at HBO
          clear ho
          go_wp2_with fail
          refine wp_region_quiet_later (by kernel_rfl) (by kernel_rfl) ?_
          repeat (go_big_quiet_step (fail))
          go_big_quiet_step ((go_at_call 34; exact Calls.later_of (HBO.out _)))
          repeat (go_big_quiet_step (fail))
          refine wpQuiet_nil ?_
          rintro we ⟨⟨_, hbe⟩, rfl⟩
          have HBe := Lib.hid (HBc2.out.trans (hbe.mono HBc2.out.size))
          have HOe := Lib.hid (HO2.out.to hbe)
          clear hbe z0 z1 z2 z3 z4 zb
          have HOa := Lib.hid (HOe.out.to (bnew we (.cells #[.int .i32 r] 21)))
          have HBa := Lib.hid (HBe.out.alloc HBe.out.size (.cells #[.int .i32 r] 21))
          have hsa : X.heap.size ≤ (we.alloc (.cells #[.int .i32 r] 21)).heap.size := HBa.out.size
          have HLr := Lib.hid (own_lit1 we r)
          have hol := HOL.out
          have HAP := Lib.hid (show (O ++ [r]).length = ol + 1 from by rw [List.length_append, hol, List.length_singleton])
          by_cases hc0 : c = 0
          · have c1 : (c == 0) = true := by simp [hc0]
            have w1 : IntKind.i64.wrap (((ol + 1 : Nat) : Int) - 1) = (ol : Int) := by rw [IntWalk.i64_in _ (by omega)]; omega
            have w2 : IntKind.i64.wrap ((ol : Int) + 1 - 1) = (ol : Int) := by rw [IntWalk.i64_in _ (by omega)]; omega
            have HNE2 := Lib.hid (HNE.out.trans (by rw [if_pos hc0]))
            have HC0 := Lib.hid hc0
            clear hc0
            go_wp2_with (at_builtin; refine wpList_append_runes (by rfl) _ _ rfl X.heap.size i0 Tryz.underlying29 hi hz0 hz1 hz2 (.slice (some ⟨go, 0, none⟩) ol co) O.length (O.map (Value.int .i32)) rfl HOa.out (.slice (some ⟨we.heap.size, 0, none⟩) 1 1) [r] rfl HLr.out.at (own_nilc HLr.out) (by simp only [List.length_singleton]; unfold maxLen; omega) (by simp only [List.length_singleton]; omega) hsa ?_; intro v6 w6 hown6 hgrow6; have HO6 : Hid (Own w6 X.heap.size v6 (O ++ [r])) := Lib.hid (own_app hown6); have HB6 : Hid (Below X.heap.size X w6) := Lib.hid (bel_grown (v := .slice (some ⟨go, 0, none⟩) ol co) HBa.out HOa.out hgrow6 hsa); clear hown6 hgrow6; obtain ⟨p6, c6, hv6, _⟩ := HO6.out.form; rw [HAP.out] at hv6; subst hv6)
            go_roundw
            case rel => exact ⟨k + 1, O ++ [r], (ol : Int), p6, c6, by omega, by go_num, by rw [HAP.out], by go_num, by rw [HAP.out]; omega, by omega, by rw [HAP.out]; omega, HNE2, by rw [HAP.out]; exact HO6, HB6⟩
            case measure => simp [intOf]; omega
          · have c1 : (c == 0) = false := by simpa using hc0
            have HNE2 := Lib.hid (HNE.out.trans (by rw [if_neg hc0]))
            have HC0 := Lib.hid hc0
            clear hc0
            go_wp2_with (at_builtin; refine wpList_append_runes (by rfl) _ _ rfl X.heap.size i0 Tryz.underlying29 hi hz0 hz1 hz2 (.slice (some ⟨go, 0, none⟩) ol co) O.length (O.map (Value.int .i32)) rfl HOa.out (.slice (some ⟨we.heap.size, 0, none⟩) 1 1) [r] rfl HLr.out.at (own_nilc HLr.out) (by simp only [List.length_singleton]; unfold maxLen; omega) (by simp only [List.length_singleton]; omega) hsa ?_; intro v6 w6 hown6 hgrow6; have HO6 : Hid (Own w6 X.heap.size v6 (O ++ [r])) := Lib.hid (own_app hown6); have HB6 : Hid (Below X.heap.size X w6) := Lib.hid (bel_grown (v := .slice (some ⟨go, 0, none⟩) ol co) HBa.out HOa.out hgrow6 hsa); clear hown6 hgrow6; obtain ⟨p6, c6, hv6, _⟩ := HO6.out.form; rw [HAP.out] at hv6; subst hv6)
            go_roundw
            case rel => exact ⟨k + 1, O ++ [r], (sn : Int), p6, c6, by omega, by go_num, by rw [HAP.out], rfl, by rw [HAP.out]; omega, by omega, by rw [HAP.out]; omega, HNE2, by rw [HAP.out]; exact HO6, HB6⟩
            case measure => simp [intOf]; omega
    · have HZ := Lib.hid (show O = L from by
        rw [← HL.out, ← show l.take k = l from List.take_of_length_le (by rw [HN.out]; omega), HO.out])
      go_wp2_with fail
      go_ret
      exact ⟨_, rfl, by rw [← HZ.out]; exact own_base HBX.out.size HOW.out, HBw.out⟩
end Go.Proofs.YtbclodbneonipaaGreat
