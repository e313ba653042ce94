import Derived.Test.YtbclodbneonipaaGreatNA5M
import Derived.Deep.RegionHeld3
import Derived.Test.YtbclodbneonipaaGreatW6M
/-
  The document's Form and Is (nfc).
-/
namespace Go.Proofs.YtbclodbneonipaaGreat
open Go.RowKit N
set_option maxRecDepth 20000 in
set_option maxHeartbeats 1000000 in
/-- the document's Form -/
theorem rform_is (q : TQ) (v : Value) (l : List Int) (R : List Int) (y : Int) (hR : foR q.T l = (R, y)) (w : World) (hv : RunesAt w v l) (hw : Wf32 l) (hl : l.length ≤ 35184372088320) (hT : TabAt w q) (hg : Good q.T) (hcap : q.T.pairs.length ≤ q.c2) :
    Calls Tryz.prog 11 #[q.v, v] w fun e w' => ∃ v', e = .returned (.tuple #[v', .int .i64 y]) ∧ Own w' w.heap.size v' R ∧ Below w.heap.size w w' := by
  obtain ⟨p, cap, rfl, hc⟩ := id hv
  obtain ⟨R1, hR1⟩ : ∃ R1, (apR q.T l).1 = R1 := ⟨_, rfl⟩
  obtain ⟨c, hcc⟩ : ∃ c, (apR q.T l).2 = c := ⟨_, rfl⟩
  have hlen : R1.length ≤ 4096 := by rw [← hR1]; exact apR_len _ _
  have hwf1 : Wf32 R1 := by rw [← hR1]; exact apR_wf hg.p hw
  have HA : Hid (apR q.T l = (R1, c)) := Lib.hid (by rw [← hR1, ← hcc])
  have hR2 : (if c ≠ 0 then (([] : List Int), c) else (tog q.T (ord (cls q.T) R1), 0)) = (R, y) := by
    rw [← hR]; unfold foR; rw [hR1, hcc]
  have HR := Lib.hid hR2
  have HV := Lib.hid (And.intro hv (And.intro hw hl))
  have HT := Lib.hid (And.intro hT (And.intro hg hcap))
  have HW1 := Lib.hid hwf1
  have HG0 := Lib.hid (Has.new w (.cells q.cs 28))
  have HB0 := Lib.hid (bnew w (.cells q.cs 28))
  clear hv hc hR1 hcc hwf1 hR hR2 hw hT hg hcap
  unfold TQ.v
  by_cases hz : c = 0
  · have HX : Hid (R = tog q.T (ord (cls q.T) R1) ∧ y = 0) := Lib.hid (by
      have h := HR.out
      rw [if_neg (by simp [hz])] at h
      injection h with h1 h2
      exact ⟨h1.symm, h2.symm⟩)
    have hzb : (c != 0) = false := by simp [hz]
    subst hz
    go_enter Tryz.func11, Tryz.ntmps11
    go_wp2_with fail
    refine (rapartl_is q (.slice p l.length cap) l R1 0 HA.out _ (HV.out.1.below HB0.out) HV.out.2.1 HV.out.2.2 (HT.out.1.below HB0.out) HT.out.2.1 HT.out.2.2).mono ?_
    rintro e w1 ⟨v1, rfl, ho, hb1⟩
    have HG1 := Lib.hid (HG0.out.to hb1)
    have HB1 := Lib.hid (bel2 HB0.out hb1)
    obtain ⟨p1, c1, rfl, _⟩ := id ho.form
    have HO1 := Lib.hid ho.at
    have HN1 := Lib.hid (own_nilc ho)
    have m0 : w1.cell? ⟨w.heap.size, 0, none⟩ = some (.slice q.p0 q.T.spans.length q.c0) := HG1.out.cell 0 rfl
    have m1 : w1.cell? ⟨w.heap.size, 1, none⟩ = some (.slice q.p1 q.T.classes.length q.c1) := HG1.out.cell 1 rfl
    have m2 : w1.cell? ⟨w.heap.size, 2, none⟩ = some (.slice q.p2 q.T.pairs.length q.c2) := HG1.out.cell 2 rfl
    have m3 : w1.cell? ⟨w.heap.size, 3, none⟩ = some (.slice q.p3 q.T.ways.length q.c3) := HG1.out.cell 3 rfl
    have m4 : w1.cell? ⟨w.heap.size, 4, none⟩ = some (.slice q.p4 q.T.joins.length q.c4) := HG1.out.cell 4 rfl
    clear hb1 ho
    go_wp2_with fail
    have HBd : Hid (Below w.heap.size w w1.drew) := Lib.hid HB1.out.drew
    have HOd : Hid (RunesAt w1.drew (.slice p1 R1.length c1) R1) := Lib.hid (HO1.out.below (Below.refl _ _).drew)
    have HGd : Hid (Has w1.drew w.heap.size (.cells q.cs 28)) := Lib.hid (HG1.out.to (Below.refl _ _).drew)
    obtain ⟨L2, hL2⟩ : ∃ L2, ord (cls q.T) R1 = L2 := ⟨_, rfl⟩
    have hL2l : L2.length ≤ 4096 := by rw [← hL2, ord_len]; exact hlen
    have HL2 := Lib.hid hL2
    have HW2 : Hid (Wf32 L2) := Lib.hid (by rw [← hL2]; exact ord_wf HW1.out _)
    have HL3 : Hid (tog q.T L2 = R) := Lib.hid (by rw [HX.out.1, HL2.out])
    clear hL2
    go_region_held3 (fun w' => w'.cell? ⟨w.heap.size, 0, none⟩ = some (.slice q.p0 q.T.spans.length q.c0) ∧ w'.cell? ⟨w.heap.size, 1, none⟩ = some (.slice q.p1 q.T.classes.length q.c1) ∧ w'.cell? ⟨w.heap.size, 2, none⟩ = some (.slice q.p2 q.T.pairs.length q.c2) ∧ w'.cell? ⟨w.heap.size, 3, none⟩ = some (.slice q.p3 q.T.ways.length q.c3) ∧ w'.cell? ⟨w.heap.size, 4, none⟩ = some (.slice q.p4 q.T.joins.length q.c4))
      (first | (exact ⟨HG3.out.cell 0 rfl, HG3.out.cell 1 rfl, HG3.out.cell 2 rfl, HG3.out.cell 3 rfl, HG3.out.cell 4 rfl⟩) | (exact ⟨HG2.out.cell 0 rfl, HG2.out.cell 1 rfl, HG2.out.cell 2 rfl, HG2.out.cell 3 rfl, HG2.out.cell 4 rfl⟩) | (exact ⟨HGd.out.cell 0 rfl, HGd.out.cell 1 rfl, HGd.out.cell 2 rfl, HGd.out.cell 3 rfl, HGd.out.cell 4 rfl⟩) | go_keep)
      (first | (go_at_call 17; refine (rordered_is q (.slice p1 R1.length c1) R1 L2 HL2.out _ HOd.out HN1.out (by omega) (HT.out.1.below HBd.out) HT.out.2.1.f).mono ?_; rintro e w2 ⟨v2, rfl, ho2, hb2⟩; have HB2 := Lib.hid (bel2 HBd.out hb2); have HG2 := Lib.hid (HGd.out.to hb2); have HO2 := Lib.hid ho2.at; clear hb2; obtain ⟨p2, c2, rfl, _⟩ := id ho2.form; clear ho2) | (go_at_call 19; refine (rtogether_is q (.slice p2 L2.length c2) L2 R ((rtg_tog q.T L2).trans HL3.out) _ HO2.out (by omega) (HT.out.1.below HB2.out) HT.out.2.1.f).mono ?_; rintro e w3 ⟨v3, rfl, ho3, hb3⟩; have HB3 := Lib.hid (bel2 HB2.out hb3); have HG3 := Lib.hid (HG2.out.to hb3); have HO3 : Hid (Own w3 w.heap.size v3 R) := Lib.hid (own_base HB2.out.size ho3); clear hb3 ho3))
    obtain ⟨p3, c3, rfl, _⟩ := id HO3.out.form
    go_wp2
    go_ret2
    exact ⟨_, by rw [HX.out.2]; rfl, HO3.out, HB3.out⟩
  · have HX : Hid (R = [] ∧ y = c) := Lib.hid (by
      have h := HR.out
      rw [if_pos hz] at h
      injection h with h1 h2
      exact ⟨h1.symm, h2.symm⟩)
    have hzb : (c != 0) = true := by simp [hz]
    clear hz
    go_enter Tryz.func11, Tryz.ntmps11
    go_wp2_with fail
    refine (rapartl_is q (.slice p l.length cap) l R1 c HA.out _ (HV.out.1.below HB0.out) HV.out.2.1 HV.out.2.2 (HT.out.1.below HB0.out) HT.out.2.1 HT.out.2.2).mono ?_
    rintro e w1 ⟨v1, rfl, ho, hb1⟩
    have HB1 := Lib.hid (bel2 HB0.out hb1)
    obtain ⟨p1, c1, rfl, _⟩ := id ho.form
    clear hb1 ho
    go_wp2
    go_ret2
    refine ⟨.slice none 0 0, by rw [HX.out.2]; rfl, ?_, HB1.out⟩
    rw [HX.out.1]
    exact World.ownsRow_nil _ _ _ _
set_option maxRecDepth 20000 in
set_option maxHeartbeats 1000000 in
/-- the document's Is -/
theorem ris_is (q : TQ) (v : Value) (l : List Int) (b : Bool) (y : Int) (hR : isR q.T l = (b, y)) (w : World) (hv : RunesAt w v l) (hw : Wf32 l) (hl : l.length ≤ 35184372088320) (hT : TabAt w q) (hg : Good q.T) (hcap : q.T.pairs.length ≤ q.c2) :
    Calls Tryz.prog 13 #[q.v, v] w fun e w' => e = .returned (.tuple #[.bool b, .int .i64 y]) ∧ Below w.heap.size w w' := by
  obtain ⟨p, cap, rfl, hc⟩ := id hv
  obtain ⟨R1, hR1⟩ : ∃ R1, (foR q.T l).1 = R1 := ⟨_, rfl⟩
  obtain ⟨c, hcc⟩ : ∃ c, (foR q.T l).2 = c := ⟨_, rfl⟩
  have hlen : R1.length ≤ 4096 := by rw [← hR1]; exact foR_len _ _
  have HA : Hid (foR q.T l = (R1, c)) := Lib.hid (by rw [← hR1, ← hcc])
  have hR2 : (if c ≠ 0 then (false, c) else (decide (R1 = l), 0)) = (b, y) := by
    rw [← hR]; unfold isR; rw [hR1, hcc]
  have HR := Lib.hid hR2
  have HV := Lib.hid (And.intro hv (And.intro hw hl))
  have HT := Lib.hid (And.intro hT (And.intro hg hcap))
  have HB0 := Lib.hid (bnew w (.cells q.cs 28))
  clear hv hc hR1 hcc hR hR2 hw hT hg hcap
  unfold TQ.v
  by_cases hz : c = 0
  · have HX : Hid (decide (R1 = l) = b ∧ y = 0) := Lib.hid (by
      have h := HR.out
      rw [if_neg (by simp [hz])] at h
      injection h with h1 h2
      exact ⟨h1, h2.symm⟩)
    have hzb : (c == 0) = true := by simp [hz]
    subst hz
    go_enter Tryz.func13, Tryz.ntmps13
    go_wp2_with fail
    refine (rform_is q (.slice p l.length cap) l R1 0 HA.out _ (HV.out.1.below HB0.out) HV.out.2.1 HV.out.2.2 (HT.out.1.below HB0.out) HT.out.2.1 HT.out.2.2).mono ?_
    rintro e w1 ⟨v1, rfl, ho, hb1⟩
    have HB1 := Lib.hid (bel2 HB0.out hb1)
    obtain ⟨p1, c1, rfl, _⟩ := id ho.form
    have HO1 := Lib.hid ho.at
    clear hb1 ho
    go_wp2_with fail
    refine (same_is _ _ R1 l b HX.out.1 (by omega) _ HO1.out (HV.out.1.below HB1.out)).mono ?_
    rintro e w2 ⟨rfl, hb2⟩
    have HB2 := Lib.hid (bel2 HB1.out hb2)
    clear hb2
    go_wp2
    go_ret2
    exact ⟨by rw [HX.out.2]; rfl, HB2.out⟩
  · have HX : Hid (b = false ∧ y = c) := Lib.hid (by
      have h := HR.out
      rw [if_pos hz] at h
      injection h with h1 h2
      exact ⟨h1.symm, h2.symm⟩)
    have hzb : (c == 0) = false := by simpa using hz
    clear hz
    go_enter Tryz.func13, Tryz.ntmps13
    go_wp2_with fail
    refine (rform_is q (.slice p l.length cap) l R1 c HA.out _ (HV.out.1.below HB0.out) HV.out.2.1 HV.out.2.2 (HT.out.1.below HB0.out) HT.out.2.1 HT.out.2.2).mono ?_
    rintro e w1 ⟨v1, rfl, ho, hb1⟩
    have HB1 := Lib.hid (bel2 HB0.out hb1)
    obtain ⟨p1, c1, rfl, _⟩ := id ho.form
    clear hb1 ho
    go_wp2
    go_ret2
    exact ⟨by rw [HX.out.1, HX.out.2]; rfl, HB1.out⟩
end Go.Proofs.YtbclodbneonipaaGreat
/-
  The walk of NfcForms.
-/
namespace Go.Proofs.YtbclodbneonipaaGreat
open Go.RowKit N
theorem isR_pair {T : Tab} {l : List Int} : ∃ b z, isR T l = (b, z) := ⟨_, _, rfl⟩
theorem nil_app_own {w : World} {B : Nat} {v : Value} {l : List Int} (h : Own w B v ([] ++ l)) : Own w B v l := by rwa [List.nil_append] at h
set_option maxRecDepth 20000 in
set_option maxHeartbeats 16000000 in
theorem NfcForms_walk (q : TQ) (v : Value) (l : List Int) (w : World) (hv : RunesAt w v l) (hnil : ∀ n c, v = .slice none n c → n = 0 ∧ c = 0) (hw : Wf32 l) (hl : l.length ≤ 1048576) (hT : TabAt w q) (hg : Good q.T) (hcap : q.T.pairs.length ≤ q.c2) :
    Calls Tryz.prog 3 #[q.v, v] w fun e w' => e = .returned (.bool true) ∧ Below w.heap.size w w' := by
  obtain ⟨i0, hi, hz0, hz1, hz2⟩ := info_parts infoRune
  obtain ⟨p, cap, rfl, _⟩ := id hv
  obtain ⟨A, hA⟩ : ∃ A, (apR q.T l).1 = A := ⟨_, rfl⟩
  obtain ⟨x, hx⟩ : ∃ x, (apR q.T l).2 = x := ⟨_, rfl⟩
  obtain ⟨F, hF⟩ : ∃ F, (foR q.T l).1 = F := ⟨_, rfl⟩
  obtain ⟨y, hy⟩ : ∃ y, (foR q.T l).2 = y := ⟨_, rfl⟩
  obtain ⟨b, z, hbz⟩ := isR_pair (T := q.T) (l := l)
  have hAl : A.length ≤ 4096 := by rw [← hA]; exact apR_len _ _
  have hFl : F.length ≤ 4096 := by rw [← hF]; exact foR_len _ _
  have HA : Hid (apR q.T l = (A, x)) := Lib.hid (by rw [← hA, ← hx])
  have HF : Hid (foR q.T l = (F, y)) := Lib.hid (by rw [← hF, ← hy])
  have HZ := Lib.hid hbz
  obtain ⟨D, hD⟩ : ∃ D, ord (cls q.T) l = D := ⟨_, rfl⟩
  have hDl : D.length = l.length := by rw [← hD, ord_len]
  obtain ⟨G, hG⟩ : ∃ G, tog q.T l = G := ⟨_, rfl⟩
  have hGl : G.length ≤ l.length := by rw [← hG]; exact tog_len _ _
  have HD := Lib.hid hD
  have HGG := Lib.hid hG
  obtain ⟨X, hX⟩ : ∃ X, w.alloc (.cells q.cs 28) = X := ⟨_, rfl⟩
  have HBX := Lib.hid (show Below w.heap.size w X from hX ▸ bnew w _)
  have HX := Lib.hid (show Has X w.heap.size (.cells q.cs 28) from hX ▸ Has.new w _)
  have HT := Lib.hid (And.intro hT (And.intro hg hcap))
  have HV := Lib.hid (And.intro hv (And.intro hnil hw))
  have HV1 := Lib.hid (hv.below (HBX.out.trans ((bnew X (.cells #[] 21)).mono HBX.out.size)))
  have HO0 := Lib.hid (own_lit0 X)
  have hs0 : X.heap.size ≤ (X.alloc (.cells #[] 21)).heap.size := (bnew X _).size
  have HB0 := Lib.hid (bnew X (.cells #[] 21))
  clear hA hx hF hy hbz hD hG hT hg hcap hv hnil hw
  unfold TQ.cs at hX
  unfold TQ.v
  go_enter Tryz.func3, Tryz.ntmps3
  go_wp2_with (at_builtin; refine wpList_append_runes (by rfl) _ _ rfl X.heap.size i0 Tryz.underlying29 hi hz0 hz1 hz2 (.slice (some ⟨X.heap.size, 0, none⟩) 0 0) 0 [] rfl HO0.out (.slice p l.length cap) l rfl HV1.out HV.out.2.1 (by unfold maxLen; omega) (by omega) hs0 ?_; intro v3 w3 hown3 hgrow3; have HO3 : Hid (Own w3 X.heap.size v3 l) := Lib.hid (nil_app_own (own_app (l := []) hown3)); have HB3 : Hid (Below X.heap.size X w3) := Lib.hid (bel_grown (v := .slice (some ⟨X.heap.size, 0, none⟩) 0 0) HB0.out HO0.out hgrow3 hs0); clear hown3 hgrow3 hX; have HX3 := Lib.hid (HX.out.to HB3.out); have m0 := HX3.out.cell 0 rfl; have m1 := HX3.out.cell 1 rfl; have m2 := HX3.out.cell 2 rfl; have m3 := HX3.out.cell 3 rfl; have m4 := HX3.out.cell 4 rfl; obtain ⟨p3, c3, rfl, _⟩ := HO3.out.form)
  have HN3 := Lib.hid (own_nilc HO3.out)
  have HB3w := Lib.hid (HBX.out.trans (HB3.out.mono HBX.out.size))
  have HR3 := Lib.hid HO3.out.at
  have HV3 := Lib.hid (HV.out.1.below HB3w.out)
  have HT3 := Lib.hid (HT.out.1.below HB3w.out)
  refine (apart_is q (.slice p3 l.length c3) l A x HA.out _ HR3.out HV.out.2.2 (by omega) HT3.out HT.out.2.1).mono ?_
  rintro e w4 ⟨v4, rfl, ho4, hb4⟩
  obtain ⟨p4, c4, rfl, _⟩ := id ho4.form
  have HS44 := Lib.hid ho4.at
  have HX4 := Lib.hid (HX3.out.to hb4)
  have HB4w := Lib.hid (HB3w.out.trans (hb4.mono HB3w.out.size))
  have HR4 := Lib.hid (HR3.out.below hb4)
  have HV4 := Lib.hid (HV3.out.below hb4)
  have HT4 := Lib.hid (HT3.out.below hb4)
  clear m0 m1 m2 m3 m4 hb4 ho4
  have m0 : w4.cell? ⟨w.heap.size, 0, none⟩ = some (.slice q.p0 q.T.spans.length q.c0) := HX4.out.cell 0 rfl
  have m1 : w4.cell? ⟨w.heap.size, 1, none⟩ = some (.slice q.p1 q.T.classes.length q.c1) := HX4.out.cell 1 rfl
  have m2 : w4.cell? ⟨w.heap.size, 2, none⟩ = some (.slice q.p2 q.T.pairs.length q.c2) := HX4.out.cell 2 rfl
  have m3 : w4.cell? ⟨w.heap.size, 3, none⟩ = some (.slice q.p3 q.T.ways.length q.c3) := HX4.out.cell 3 rfl
  have m4 : w4.cell? ⟨w.heap.size, 4, none⟩ = some (.slice q.p4 q.T.joins.length q.c4) := HX4.out.cell 4 rfl
  go_wp2_with fail
  refine (rapartl_is q (.slice p l.length cap) l A x HA.out _ HV4.out HV.out.2.2 (by omega) HT4.out HT.out.2.1 HT.out.2.2).mono ?_
  rintro e w5 ⟨v5, rfl, ho5, hb5⟩
  obtain ⟨p5, c5, rfl, _⟩ := id ho5.form
  have HS55 := Lib.hid ho5.at
  have HX5 := Lib.hid (HX4.out.to hb5)
  have HB5w := Lib.hid (HB4w.out.trans (hb5.mono HB4w.out.size))
  have HR5 := Lib.hid (HR4.out.below hb5)
  have HV5 := Lib.hid (HV4.out.below hb5)
  have HT5 := Lib.hid (HT4.out.below hb5)
  have HS45 := Lib.hid (HS44.out.below hb5)
  clear m0 m1 m2 m3 m4 hb5 ho5
  have m0 : w5.cell? ⟨w.heap.size, 0, none⟩ = some (.slice q.p0 q.T.spans.length q.c0) := HX5.out.cell 0 rfl
  have m1 : w5.cell? ⟨w.heap.size, 1, none⟩ = some (.slice q.p1 q.T.classes.length q.c1) := HX5.out.cell 1 rfl
  have m2 : w5.cell? ⟨w.heap.size, 2, none⟩ = some (.slice q.p2 q.T.pairs.length q.c2) := HX5.out.cell 2 rfl
  have m3 : w5.cell? ⟨w.heap.size, 3, none⟩ = some (.slice q.p3 q.T.ways.length q.c3) := HX5.out.cell 3 rfl
  have m4 : w5.cell? ⟨w.heap.size, 4, none⟩ = some (.slice q.p4 q.T.joins.length q.c4) := HX5.out.cell 4 rfl
  go_wp2_with fail
  refine (form_is q (.slice p3 l.length c3) l F y HF.out _ HR5.out HV.out.2.2 (by omega) HT5.out HT.out.2.1).mono ?_
  rintro e w6 ⟨v6, rfl, ho6, hb6⟩
  obtain ⟨p6, c6, rfl, _⟩ := id ho6.form
  have HS66 := Lib.hid ho6.at
  have HX6 := Lib.hid (HX5.out.to hb6)
  have HB6w := Lib.hid (HB5w.out.trans (hb6.mono HB5w.out.size))
  have HR6 := Lib.hid (HR5.out.below hb6)
  have HV6 := Lib.hid (HV5.out.below hb6)
  have HT6 := Lib.hid (HT5.out.below hb6)
  have HS46 := Lib.hid (HS45.out.below hb6)
  have HS56 := Lib.hid (HS55.out.below hb6)
  clear m0 m1 m2 m3 m4 hb6 ho6
  have m0 : w6.cell? ⟨w.heap.size, 0, none⟩ = some (.slice q.p0 q.T.spans.length q.c0) := HX6.out.cell 0 rfl
  have m1 : w6.cell? ⟨w.heap.size, 1, none⟩ = some (.slice q.p1 q.T.classes.length q.c1) := HX6.out.cell 1 rfl
  have m2 : w6.cell? ⟨w.heap.size, 2, none⟩ = some (.slice q.p2 q.T.pairs.length q.c2) := HX6.out.cell 2 rfl
  have m3 : w6.cell? ⟨w.heap.size, 3, none⟩ = some (.slice q.p3 q.T.ways.length q.c3) := HX6.out.cell 3 rfl
  have m4 : w6.cell? ⟨w.heap.size, 4, none⟩ = some (.slice q.p4 q.T.joins.length q.c4) := HX6.out.cell 4 rfl
  go_wp2_with fail
  refine (rform_is q (.slice p l.length cap) l F y HF.out _ HV6.out HV.out.2.2 (by omega) HT6.out HT.out.2.1 HT.out.2.2).mono ?_
  rintro e w7 ⟨v7, rfl, ho7, hb7⟩
  obtain ⟨p7, c7, rfl, _⟩ := id ho7.form
  have HS77 := Lib.hid ho7.at
  have HX7 := Lib.hid (HX6.out.to hb7)
  have HB7w := Lib.hid (HB6w.out.trans (hb7.mono HB6w.out.size))
  have HR7 := Lib.hid (HR6.out.below hb7)
  have HV7 := Lib.hid (HV6.out.below hb7)
  have HT7 := Lib.hid (HT6.out.below hb7)
  have HS47 := Lib.hid (HS46.out.below hb7)
  have HS57 := Lib.hid (HS56.out.below hb7)
  have HS67 := Lib.hid (HS66.out.below hb7)
  clear m0 m1 m2 m3 m4 hb7 ho7
  have m0 : w7.cell? ⟨w.heap.size, 0, none⟩ = some (.slice q.p0 q.T.spans.length q.c0) := HX7.out.cell 0 rfl
  have m1 : w7.cell? ⟨w.heap.size, 1, none⟩ = some (.slice q.p1 q.T.classes.length q.c1) := HX7.out.cell 1 rfl
  have m2 : w7.cell? ⟨w.heap.size, 2, none⟩ = some (.slice q.p2 q.T.pairs.length q.c2) := HX7.out.cell 2 rfl
  have m3 : w7.cell? ⟨w.heap.size, 3, none⟩ = some (.slice q.p3 q.T.ways.length q.c3) := HX7.out.cell 3 rfl
  have m4 : w7.cell? ⟨w.heap.size, 4, none⟩ = some (.slice q.p4 q.T.joins.length q.c4) := HX7.out.cell 4 rfl
  go_wp2_with fail
  refine (is_is q (.slice p3 l.length c3) l b z HZ.out _ HR7.out HV.out.2.2 (by omega) HT7.out HT.out.2.1).mono ?_
  rintro e w8 ⟨rfl, hb8⟩
  have HX8 := Lib.hid (HX7.out.to hb8)
  have HB8w := Lib.hid (HB7w.out.trans (hb8.mono HB7w.out.size))
  have HR8 := Lib.hid (HR7.out.below hb8)
  have HV8 := Lib.hid (HV7.out.below hb8)
  have HT8 := Lib.hid (HT7.out.below hb8)
  have HS48 := Lib.hid (HS47.out.below hb8)
  have HS58 := Lib.hid (HS57.out.below hb8)
  have HS68 := Lib.hid (HS67.out.below hb8)
  have HS78 := Lib.hid (HS77.out.below hb8)
  clear m0 m1 m2 m3 m4 hb8
  have m0 : w8.cell? ⟨w.heap.size, 0, none⟩ = some (.slice q.p0 q.T.spans.length q.c0) := HX8.out.cell 0 rfl
  have m1 : w8.cell? ⟨w.heap.size, 1, none⟩ = some (.slice q.p1 q.T.classes.length q.c1) := HX8.out.cell 1 rfl
  have m2 : w8.cell? ⟨w.heap.size, 2, none⟩ = some (.slice q.p2 q.T.pairs.length q.c2) := HX8.out.cell 2 rfl
  have m3 : w8.cell? ⟨w.heap.size, 3, none⟩ = some (.slice q.p3 q.T.ways.length q.c3) := HX8.out.cell 3 rfl
  have m4 : w8.cell? ⟨w.heap.size, 4, none⟩ = some (.slice q.p4 q.T.joins.length q.c4) := HX8.out.cell 4 rfl
  go_wp2_with fail
  refine (ris_is q (.slice p l.length cap) l b z HZ.out _ HV8.out HV.out.2.2 (by omega) HT8.out HT.out.2.1 HT.out.2.2).mono ?_
  rintro e w9 ⟨rfl, hb9⟩
  have HX9 := Lib.hid (HX8.out.to hb9)
  have HB9w := Lib.hid (HB8w.out.trans (hb9.mono HB8w.out.size))
  have HR9 := Lib.hid (HR8.out.below hb9)
  have HV9 := Lib.hid (HV8.out.below hb9)
  have HT9 := Lib.hid (HT8.out.below hb9)
  have HS49 := Lib.hid (HS48.out.below hb9)
  have HS59 := Lib.hid (HS58.out.below hb9)
  have HS69 := Lib.hid (HS68.out.below hb9)
  have HS79 := Lib.hid (HS78.out.below hb9)
  clear m0 m1 m2 m3 m4 hb9
  have HXd : Hid (Has w9.drew w.heap.size (.cells q.cs 28)) := Lib.hid (HX9.out.to (Below.refl _ w9).drew)
  have HBd : Hid (Below w.heap.size w w9.drew) := Lib.hid HB9w.out.drew
  have HRd : Hid (RunesAt w9.drew (.slice p3 l.length c3) l) := Lib.hid (HR9.out.below (Below.refl _ w9).drew)
  have HVd : Hid (RunesAt w9.drew (.slice p l.length cap) l) := Lib.hid (HV9.out.below (Below.refl _ w9).drew)
  have HTd : Hid (TabAt w9.drew q) := Lib.hid (HT9.out.below (Below.refl _ w9).drew)
  have HS4 : Hid (RunesAt w9.drew (.slice p4 A.length c4) A) := Lib.hid (HS49.out.below (Below.refl _ w9).drew)
  have HS5 : Hid (RunesAt w9.drew (.slice p5 A.length c5) A) := Lib.hid (HS59.out.below (Below.refl _ w9).drew)
  have HS6 : Hid (RunesAt w9.drew (.slice p6 F.length c6) F) := Lib.hid (HS69.out.below (Below.refl _ w9).drew)
  have HS7 : Hid (RunesAt w9.drew (.slice p7 F.length c7) F) := Lib.hid (HS79.out.below (Below.refl _ w9).drew)
  have HQ9 : Hid (Below w9.drew.heap.size w9.drew w9.drew) := Lib.hid (Below.refl _ _)
  go_wp2_with fail
  go_region_held3 (fun w' => w'.cell? ⟨w.heap.size, 0, none⟩ = some (.slice q.p0 q.T.spans.length q.c0) ∧ w'.cell? ⟨w.heap.size, 1, none⟩ = some (.slice q.p1 q.T.classes.length q.c1) ∧ w'.cell? ⟨w.heap.size, 2, none⟩ = some (.slice q.p2 q.T.pairs.length q.c2) ∧ w'.cell? ⟨w.heap.size, 3, none⟩ = some (.slice q.p3 q.T.ways.length q.c3) ∧ w'.cell? ⟨w.heap.size, 4, none⟩ = some (.slice q.p4 q.T.joins.length q.c4))
    (first | (exact ⟨(HXd.out.to HQ19.out).cell 0 rfl, (HXd.out.to HQ19.out).cell 1 rfl, (HXd.out.to HQ19.out).cell 2 rfl, (HXd.out.to HQ19.out).cell 3 rfl, (HXd.out.to HQ19.out).cell 4 rfl⟩) | (exact ⟨(HXd.out.to HQ18.out).cell 0 rfl, (HXd.out.to HQ18.out).cell 1 rfl, (HXd.out.to HQ18.out).cell 2 rfl, (HXd.out.to HQ18.out).cell 3 rfl, (HXd.out.to HQ18.out).cell 4 rfl⟩) | (exact ⟨(HXd.out.to HQ17.out).cell 0 rfl, (HXd.out.to HQ17.out).cell 1 rfl, (HXd.out.to HQ17.out).cell 2 rfl, (HXd.out.to HQ17.out).cell 3 rfl, (HXd.out.to HQ17.out).cell 4 rfl⟩) | (exact ⟨(HXd.out.to HQ16.out).cell 0 rfl, (HXd.out.to HQ16.out).cell 1 rfl, (HXd.out.to HQ16.out).cell 2 rfl, (HXd.out.to HQ16.out).cell 3 rfl, (HXd.out.to HQ16.out).cell 4 rfl⟩) | (exact ⟨(HXd.out.to HQ15.out).cell 0 rfl, (HXd.out.to HQ15.out).cell 1 rfl, (HXd.out.to HQ15.out).cell 2 rfl, (HXd.out.to HQ15.out).cell 3 rfl, (HXd.out.to HQ15.out).cell 4 rfl⟩) | (exact ⟨(HXd.out.to HQ14.out).cell 0 rfl, (HXd.out.to HQ14.out).cell 1 rfl, (HXd.out.to HQ14.out).cell 2 rfl, (HXd.out.to HQ14.out).cell 3 rfl, (HXd.out.to HQ14.out).cell 4 rfl⟩) | (exact ⟨(HXd.out.to HQ13.out).cell 0 rfl, (HXd.out.to HQ13.out).cell 1 rfl, (HXd.out.to HQ13.out).cell 2 rfl, (HXd.out.to HQ13.out).cell 3 rfl, (HXd.out.to HQ13.out).cell 4 rfl⟩) | (exact ⟨(HXd.out.to HQ12.out).cell 0 rfl, (HXd.out.to HQ12.out).cell 1 rfl, (HXd.out.to HQ12.out).cell 2 rfl, (HXd.out.to HQ12.out).cell 3 rfl, (HXd.out.to HQ12.out).cell 4 rfl⟩) | (exact ⟨(HXd.out.to HQ11.out).cell 0 rfl, (HXd.out.to HQ11.out).cell 1 rfl, (HXd.out.to HQ11.out).cell 2 rfl, (HXd.out.to HQ11.out).cell 3 rfl, (HXd.out.to HQ11.out).cell 4 rfl⟩) | (exact ⟨(HXd.out.to HQ10.out).cell 0 rfl, (HXd.out.to HQ10.out).cell 1 rfl, (HXd.out.to HQ10.out).cell 2 rfl, (HXd.out.to HQ10.out).cell 3 rfl, (HXd.out.to HQ10.out).cell 4 rfl⟩) | (exact ⟨(HXd.out.to HQ9.out).cell 0 rfl, (HXd.out.to HQ9.out).cell 1 rfl, (HXd.out.to HQ9.out).cell 2 rfl, (HXd.out.to HQ9.out).cell 3 rfl, (HXd.out.to HQ9.out).cell 4 rfl⟩) | go_keep)
    (first
      | (go_at_call 15; refine (same_is (.slice p3 l.length c3) (.slice p l.length cap) l l true (by simp) (by omega) _ (HRd.out.below HQ18.out) (HVd.out.below HQ18.out)).mono ?_; rintro e w19 ⟨rfl, hb19⟩; have HQ19 := Lib.hid (bel2 HQ18.out hb19); clear hb19)
      | (go_at_call 15; refine (same_is v16 v17 G G true (by simp) (by omega) _ HO17.out HP17.out).mono ?_; rintro e w18 ⟨rfl, hb18⟩; have HQ18 := Lib.hid (bel2 HQ17.out hb18); clear hb18)
      | (go_at_call 19; refine (rtogether_is q (.slice p l.length cap) l G ((rtg_tog q.T l).trans HGG.out) _ (HVd.out.below HQ16.out) (by omega) (HTd.out.below HQ16.out) HT.out.2.1.f).mono ?_; rintro e w17 ⟨v17, rfl, ho17, hb17⟩; have HQ17 := Lib.hid (bel2 HQ16.out hb17); have HO17 := Lib.hid (HO16.out.below hb17); have HP17 := Lib.hid ho17.at; clear ho17 hb17)
      | (go_at_call 18; refine (together_is q (.slice p3 l.length c3) l G HGG.out _ (HRd.out.below HQ15.out) HV.out.2.2 (by omega) (HTd.out.below HQ15.out) HT.out.2.1.f HT.out.2.1.p).mono ?_; rintro e w16 ⟨v16, rfl, ho16, hb16⟩; have HQ16 := Lib.hid (bel2 HQ15.out hb16); have HO16 := Lib.hid ho16.at; clear ho16 hb16)
      | (go_at_call 15; refine (same_is v13 v14 D D true (by simp) (by omega) _ HO14.out HP14.out).mono ?_; rintro e w15 ⟨rfl, hb15⟩; have HQ15 := Lib.hid (bel2 HQ14.out hb15); clear hb15)
      | (go_at_call 17; refine (rordered_is q (.slice p l.length cap) l D HD.out _ (HVd.out.below HQ13.out) HV.out.2.1 (by omega) (HTd.out.below HQ13.out) HT.out.2.1.f).mono ?_; rintro e w14 ⟨v14, rfl, ho14, hb14⟩; have HQ14 := Lib.hid (bel2 HQ13.out hb14); have HO14 := Lib.hid (HO13.out.below hb14); have HP14 := Lib.hid ho14.at; clear ho14 hb14)
      | (go_at_call 16; refine (ordered_is q (.slice p3 l.length c3) l D HD.out _ (HRd.out.below HQ12.out) (by omega) (HTd.out.below HQ12.out) HT.out.2.1.f).mono ?_; rintro e w13 ⟨v13, rfl, ho13, hb13⟩; have HQ13 := Lib.hid (bel2 HQ12.out hb13); have HO13 := Lib.hid ho13.at; clear ho13 hb13)
      | (go_at_call 15; refine (same_is (.slice p6 F.length c6) (.slice p7 F.length c7) F F true (by simp) (by omega) _ (HS6.out.below HQ11.out) (HS7.out.below HQ11.out)).mono ?_; rintro e w12 ⟨rfl, hb12⟩; have HQ12 := Lib.hid (bel2 HQ11.out hb12); clear hb12)
      | (go_at_call 15; refine (same_is (.slice p4 A.length c4) (.slice p5 A.length c5) A A true (by simp) (by omega) _ (HS4.out.below HQ10.out) (HS5.out.below HQ10.out)).mono ?_; rintro e w11 ⟨rfl, hb11⟩; have HQ11 := Lib.hid (bel2 HQ10.out hb11); clear hb11)
      | (go_at_call 14; refine (lives_is _).mono ?_; rintro e w10 ⟨rfl, hb10⟩; have HQ10 := Lib.hid (bel2 HQ9.out hb10); clear hb10))
  go_wp2
  go_ret
  exact ⟨rfl, bel2 HBd.out HQ19.out⟩
end Go.Proofs.YtbclodbneonipaaGreat
