import Derived.Test.YtbclodbneonipaaGreatCEspanM
import Derived.Test.YtbclodbneonipaaGreatCEjoinM
import Derived.Test.YtbclodbneonipaaGreatCRwayM
namespace Go.Proofs.YtbclodbneonipaaGreat
open Go.RowKit N
theorem TabAt.mv {w : World} {q : TQ} (h : TabAt w q) : ∀ x ∈ q.T.spans, ∃ p c, x.mv = .slice p x.map.length c := fun x hx => by
  obtain ⟨p, c, e, _⟩ := h.m x hx
  exact ⟨p, c, e⟩
set_option maxHeartbeats 1000000 in
theorem check1 (q : TQ) (g : Nat) (b : Bool) (hb : q.T.spans.all spB = b) (w : World) (hG : Has w g (.cells q.cs 28)) (h : TabAt w q) (hf : Fit q.T) :
    Calls Tryz.prog 54 #[.pointer (some ⟨g, 0, none⟩)] w fun e w' => e = .returned (.bool b) ∧ Below w.heap.size w w' := by
  have c0 : w.cell? ⟨g, 0, none⟩ = some q.v0 := hG.cell 0 rfl
  have hl : q.T.spans.length ≤ maxLen := by have := hf.s; unfold maxLen; omega
  have HE := Lib.hid (every_span spB q.v0 q.T.spans b hb w hl h.s h.mv (fun x hx w => spanHolds x (h.mv x hx) w))
  unfold TQ.v0 at c0
  clear hb hG h hf hl
  go_enter Tryz.func54, Tryz.ntmps54
  go_wp2_with fail
  refine HE.out.mono ?_
  rintro e w1 ⟨rfl, hb1⟩
  go_wp2
  go_ret
  exact ⟨rfl, hb1⟩
set_option maxHeartbeats 1000000 in
theorem check2 (q : TQ) (g : Nat) (b : Bool) (hb : q.T.classes.all clB = b) (w : World) (hG : Has w g (.cells q.cs 28)) (h : TabAt w q) (hf : Fit q.T) :
    Calls Tryz.prog 57 #[.pointer (some ⟨g, 0, none⟩)] w fun e w' => e = .returned (.bool b) ∧ Below w.heap.size w w' := by
  have c0 : w.cell? ⟨g, 1, none⟩ = some q.v1 := hG.cell 1 rfl
  have hl : q.T.classes.length ≤ maxLen := by have := hf.c; unfold maxLen; omega
  have HE := Lib.hid (every_class clB q.v1 q.T.classes b hb w hl h.c (fun x _ w => classHolds x w))
  unfold TQ.v1 at c0
  clear hb hG h hf hl
  go_enter Tryz.func57, Tryz.ntmps57
  go_wp2_with fail
  refine HE.out.mono ?_
  rintro e w1 ⟨rfl, hb1⟩
  go_wp2
  go_ret
  exact ⟨rfl, hb1⟩
set_option maxHeartbeats 1000000 in
theorem check4 (q : TQ) (g : Nat) (b : Bool) (hb : q.T.ways.all wyB = b) (w : World) (hG : Has w g (.cells q.cs 28)) (h : TabAt w q) (hf : Fit q.T) :
    Calls Tryz.prog 64 #[.pointer (some ⟨g, 0, none⟩)] w fun e w' => e = .returned (.bool b) ∧ Below w.heap.size w w' := by
  have c0 : w.cell? ⟨g, 3, none⟩ = some q.v3 := hG.cell 3 rfl
  have hl : q.T.ways.length ≤ maxLen := by have := hf.y; unfold maxLen; omega
  have HE := Lib.hid (every_way wyB q.v3 q.T.ways b hb w hl h.y (fun x _ w => wayHolds x w))
  unfold TQ.v3 at c0
  clear hb hG h hf hl
  go_enter Tryz.func64, Tryz.ntmps64
  go_wp2_with fail
  refine HE.out.mono ?_
  rintro e w1 ⟨rfl, hb1⟩
  go_wp2
  go_ret
  exact ⟨rfl, hb1⟩
set_option maxHeartbeats 1000000 in
theorem check5 (q : TQ) (g : Nat) (b : Bool) (hb : q.T.joins.all jnB = b) (w : World) (hG : Has w g (.cells q.cs 28)) (h : TabAt w q) (hf : Fit q.T) :
    Calls Tryz.prog 67 #[.pointer (some ⟨g, 0, none⟩)] w fun e w' => e = .returned (.bool b) ∧ Below w.heap.size w w' := by
  have c0 : w.cell? ⟨g, 4, none⟩ = some q.v4 := hG.cell 4 rfl
  have hl : q.T.joins.length ≤ maxLen := by have := hf.j; unfold maxLen; omega
  have HE := Lib.hid (every_join jnB q.v4 q.T.joins b hb w hl h.j (fun x _ w => joinHolds x w))
  unfold TQ.v4 at c0
  clear hb hG h hf hl
  go_enter Tryz.func67, Tryz.ntmps67
  go_wp2_with fail
  refine HE.out.mono ?_
  rintro e w1 ⟨rfl, hb1⟩
  go_wp2
  go_ret
  exact ⟨rfl, hb1⟩
def risesB (q : TQ) : Bool := riseF (-1) (q.T.spans.map fun x => (x.lo, x.hi)) && (riseF (-1) (q.T.classes.map fun x => (x.r, x.r)) && (riseF (-1) (q.T.pairs.map fun x => (x.r, x.r)) && (riseF (-1) (q.T.ways.map fun x => (x.lo, x.hi)) && (riseF (-1) (q.T.joins.map fun x => (x.lo, x.hi))))))
set_option maxRecDepth 20000 in
set_option maxHeartbeats 4000000 in
theorem check6 (q : TQ) (g : Nat) (b : Bool) (hb : risesB q = b) (w : World) (hG : Has w g (.cells q.cs 28)) (h : TabAt w q) (hf : Fit q.T) :
    Calls Tryz.prog 70 #[.pointer (some ⟨g, 0, none⟩)] w fun e w' => e = .returned (.bool b) ∧ Below w.heap.size w w' := by
  have HG0 := Lib.hid hG
  have HT := Lib.hid h
  have HF := Lib.hid hf
  unfold risesB at hb
  have k0 : w.cell? ⟨g, 0, none⟩ = some (.slice q.p0 q.T.spans.length q.c0) := hG.cell 0 rfl
  have k1 : w.cell? ⟨g, 1, none⟩ = some (.slice q.p1 q.T.classes.length q.c1) := hG.cell 1 rfl
  have k2 : w.cell? ⟨g, 2, none⟩ = some (.slice q.p2 q.T.pairs.length q.c2) := hG.cell 2 rfl
  have k3 : w.cell? ⟨g, 3, none⟩ = some (.slice q.p3 q.T.ways.length q.c3) := hG.cell 3 rfl
  have k4 : w.cell? ⟨g, 4, none⟩ = some (.slice q.p4 q.T.joins.length q.c4) := hG.cell 4 rfl
  have hgl := hG.lt
  clear hG h hf
  have HB0 := Lib.hid (Below.refl w.heap.size w)
  go_enter Tryz.func70, Tryz.ntmps70
  cases hv0 : riseF (-1) (q.T.spans.map fun x => (x.lo, x.hi)) with
  | false =>
    have HV0 := Lib.hid hv0
    have HZ : Hid (b = false) := Lib.hid (by rw [← hb]; simp [HV0.out])
    clear hb hv0
    go_wp2_with fail
    refine (statuses_any q _).mono ?_
    rintro e wa0 ⟨rfl, hba0⟩
    have HBa0 := Lib.hid (bel2 HB0.out hba0)
    clear hba0
    go_wp2_with fail
    refine (rise_span q.v0 q.T.spans false HV0.out _ (by have := HF.out.s; unfold maxLen; omega) (HT.out.s.below HBa0.out) HT.out.mv).mono ?_
    rintro e wb0 ⟨rfl, hbb0⟩
    have HB1 := Lib.hid (bel2 HBa0.out hbb0)
    have hs1 := HB1.out.size
    have HG1 := Lib.hid (HG0.out.to HB1.out)
    clear hbb0
    have n10 : wb0.cell? ⟨g, 0, none⟩ = some (.slice q.p0 q.T.spans.length q.c0) := HG1.out.cell 0 rfl
    have n11 : wb0.cell? ⟨g, 1, none⟩ = some (.slice q.p1 q.T.classes.length q.c1) := HG1.out.cell 1 rfl
    have n12 : wb0.cell? ⟨g, 2, none⟩ = some (.slice q.p2 q.T.pairs.length q.c2) := HG1.out.cell 2 rfl
    have n13 : wb0.cell? ⟨g, 3, none⟩ = some (.slice q.p3 q.T.ways.length q.c3) := HG1.out.cell 3 rfl
    have n14 : wb0.cell? ⟨g, 4, none⟩ = some (.slice q.p4 q.T.joins.length q.c4) := HG1.out.cell 4 rfl
    go_wp2
    go_ret
    exact ⟨by rw [HZ.out]; rfl, HB1.out⟩
  | true =>
    have HV0 := Lib.hid hv0
    clear hv0
    have HBB := Lib.hid hb
    clear hb
    go_wp2_with fail
    refine (statuses_any q _).mono ?_
    rintro e wa0 ⟨rfl, hba0⟩
    have HBa0 := Lib.hid (bel2 HB0.out hba0)
    clear hba0
    go_wp2_with fail
    refine (rise_span q.v0 q.T.spans true HV0.out _ (by have := HF.out.s; unfold maxLen; omega) (HT.out.s.below HBa0.out) HT.out.mv).mono ?_
    rintro e wb0 ⟨rfl, hbb0⟩
    have HB1 := Lib.hid (bel2 HBa0.out hbb0)
    have hs1 := HB1.out.size
    have HG1 := Lib.hid (HG0.out.to HB1.out)
    clear hbb0
    have n10 : wb0.cell? ⟨g, 0, none⟩ = some (.slice q.p0 q.T.spans.length q.c0) := HG1.out.cell 0 rfl
    have n11 : wb0.cell? ⟨g, 1, none⟩ = some (.slice q.p1 q.T.classes.length q.c1) := HG1.out.cell 1 rfl
    have n12 : wb0.cell? ⟨g, 2, none⟩ = some (.slice q.p2 q.T.pairs.length q.c2) := HG1.out.cell 2 rfl
    have n13 : wb0.cell? ⟨g, 3, none⟩ = some (.slice q.p3 q.T.ways.length q.c3) := HG1.out.cell 3 rfl
    have n14 : wb0.cell? ⟨g, 4, none⟩ = some (.slice q.p4 q.T.joins.length q.c4) := HG1.out.cell 4 rfl
    have hb := HBB.out
    clear HBB
    cases hv1 : riseF (-1) (q.T.classes.map fun x => (x.r, x.r)) with
    | false =>
      have HV1 := Lib.hid hv1
      have HZ : Hid (b = false) := Lib.hid (by rw [← hb]; simp [HV0.out, HV1.out])
      clear hb hv1
      go_wp2_with fail
      refine (classes_any q _).mono ?_
      rintro e wa1 ⟨rfl, hba1⟩
      have HBa1 := Lib.hid (bel2 HB1.out hba1)
      clear hba1
      go_wp2_with fail
      refine (rise_class q.v1 q.T.classes false HV1.out _ (by have := HF.out.c; unfold maxLen; omega) (HT.out.c.below HBa1.out) ).mono ?_
      rintro e wb1 ⟨rfl, hbb1⟩
      have HB2 := Lib.hid (bel2 HBa1.out hbb1)
      have hs2 := HB2.out.size
      have HG2 := Lib.hid (HG0.out.to HB2.out)
      clear hbb1
      have n20 : wb1.cell? ⟨g, 0, none⟩ = some (.slice q.p0 q.T.spans.length q.c0) := HG2.out.cell 0 rfl
      have n21 : wb1.cell? ⟨g, 1, none⟩ = some (.slice q.p1 q.T.classes.length q.c1) := HG2.out.cell 1 rfl
      have n22 : wb1.cell? ⟨g, 2, none⟩ = some (.slice q.p2 q.T.pairs.length q.c2) := HG2.out.cell 2 rfl
      have n23 : wb1.cell? ⟨g, 3, none⟩ = some (.slice q.p3 q.T.ways.length q.c3) := HG2.out.cell 3 rfl
      have n24 : wb1.cell? ⟨g, 4, none⟩ = some (.slice q.p4 q.T.joins.length q.c4) := HG2.out.cell 4 rfl
      go_wp2
      go_ret
      exact ⟨by rw [HZ.out]; rfl, HB2.out⟩
    | true =>
      have HV1 := Lib.hid hv1
      clear hv1
      have HBB := Lib.hid hb
      clear hb
      go_wp2_with fail
      refine (classes_any q _).mono ?_
      rintro e wa1 ⟨rfl, hba1⟩
      have HBa1 := Lib.hid (bel2 HB1.out hba1)
      clear hba1
      go_wp2_with fail
      refine (rise_class q.v1 q.T.classes true HV1.out _ (by have := HF.out.c; unfold maxLen; omega) (HT.out.c.below HBa1.out) ).mono ?_
      rintro e wb1 ⟨rfl, hbb1⟩
      have HB2 := Lib.hid (bel2 HBa1.out hbb1)
      have hs2 := HB2.out.size
      have HG2 := Lib.hid (HG0.out.to HB2.out)
      clear hbb1
      have n20 : wb1.cell? ⟨g, 0, none⟩ = some (.slice q.p0 q.T.spans.length q.c0) := HG2.out.cell 0 rfl
      have n21 : wb1.cell? ⟨g, 1, none⟩ = some (.slice q.p1 q.T.classes.length q.c1) := HG2.out.cell 1 rfl
      have n22 : wb1.cell? ⟨g, 2, none⟩ = some (.slice q.p2 q.T.pairs.length q.c2) := HG2.out.cell 2 rfl
      have n23 : wb1.cell? ⟨g, 3, none⟩ = some (.slice q.p3 q.T.ways.length q.c3) := HG2.out.cell 3 rfl
      have n24 : wb1.cell? ⟨g, 4, none⟩ = some (.slice q.p4 q.T.joins.length q.c4) := HG2.out.cell 4 rfl
      have hb := HBB.out
      clear HBB
      cases hv2 : riseF (-1) (q.T.pairs.map fun x => (x.r, x.r)) with
      | false =>
        have HV2 := Lib.hid hv2
        have HZ : Hid (b = false) := Lib.hid (by rw [← hb]; simp [HV0.out, HV1.out, HV2.out])
        clear hb hv2
        go_wp2_with fail
        refine (pairs_any q _).mono ?_
        rintro e wa2 ⟨rfl, hba2⟩
        have HBa2 := Lib.hid (bel2 HB2.out hba2)
        clear hba2
        go_wp2_with fail
        refine (rise_pair q.v2 q.T.pairs false HV2.out _ (by have := HF.out.p; unfold maxLen; omega) (HT.out.p.below HBa2.out) ).mono ?_
        rintro e wb2 ⟨rfl, hbb2⟩
        have HB3 := Lib.hid (bel2 HBa2.out hbb2)
        have hs3 := HB3.out.size
        have HG3 := Lib.hid (HG0.out.to HB3.out)
        clear hbb2
        have n30 : wb2.cell? ⟨g, 0, none⟩ = some (.slice q.p0 q.T.spans.length q.c0) := HG3.out.cell 0 rfl
        have n31 : wb2.cell? ⟨g, 1, none⟩ = some (.slice q.p1 q.T.classes.length q.c1) := HG3.out.cell 1 rfl
        have n32 : wb2.cell? ⟨g, 2, none⟩ = some (.slice q.p2 q.T.pairs.length q.c2) := HG3.out.cell 2 rfl
        have n33 : wb2.cell? ⟨g, 3, none⟩ = some (.slice q.p3 q.T.ways.length q.c3) := HG3.out.cell 3 rfl
        have n34 : wb2.cell? ⟨g, 4, none⟩ = some (.slice q.p4 q.T.joins.length q.c4) := HG3.out.cell 4 rfl
        go_wp2
        go_ret
        exact ⟨by rw [HZ.out]; rfl, HB3.out⟩
      | true =>
        have HV2 := Lib.hid hv2
        clear hv2
        have HBB := Lib.hid hb
        clear hb
        go_wp2_with fail
        refine (pairs_any q _).mono ?_
        rintro e wa2 ⟨rfl, hba2⟩
        have HBa2 := Lib.hid (bel2 HB2.out hba2)
        clear hba2
        go_wp2_with fail
        refine (rise_pair q.v2 q.T.pairs true HV2.out _ (by have := HF.out.p; unfold maxLen; omega) (HT.out.p.below HBa2.out) ).mono ?_
        rintro e wb2 ⟨rfl, hbb2⟩
        have HB3 := Lib.hid (bel2 HBa2.out hbb2)
        have hs3 := HB3.out.size
        have HG3 := Lib.hid (HG0.out.to HB3.out)
        clear hbb2
        have n30 : wb2.cell? ⟨g, 0, none⟩ = some (.slice q.p0 q.T.spans.length q.c0) := HG3.out.cell 0 rfl
        have n31 : wb2.cell? ⟨g, 1, none⟩ = some (.slice q.p1 q.T.classes.length q.c1) := HG3.out.cell 1 rfl
        have n32 : wb2.cell? ⟨g, 2, none⟩ = some (.slice q.p2 q.T.pairs.length q.c2) := HG3.out.cell 2 rfl
        have n33 : wb2.cell? ⟨g, 3, none⟩ = some (.slice q.p3 q.T.ways.length q.c3) := HG3.out.cell 3 rfl
        have n34 : wb2.cell? ⟨g, 4, none⟩ = some (.slice q.p4 q.T.joins.length q.c4) := HG3.out.cell 4 rfl
        have hb := HBB.out
        clear HBB
        cases hv3 : riseF (-1) (q.T.ways.map fun x => (x.lo, x.hi)) with
        | false =>
          have HV3 := Lib.hid hv3
          have HZ : Hid (b = false) := Lib.hid (by rw [← hb]; simp [HV0.out, HV1.out, HV2.out, HV3.out])
          clear hb hv3
          go_wp2_with fail
          refine (ways_any q _).mono ?_
          rintro e wa3 ⟨rfl, hba3⟩
          have HBa3 := Lib.hid (bel2 HB3.out hba3)
          clear hba3
          go_wp2_with fail
          refine (rise_way q.v3 q.T.ways false HV3.out _ (by have := HF.out.y; unfold maxLen; omega) (HT.out.y.below HBa3.out) ).mono ?_
          rintro e wb3 ⟨rfl, hbb3⟩
          have HB4 := Lib.hid (bel2 HBa3.out hbb3)
          have hs4 := HB4.out.size
          have HG4 := Lib.hid (HG0.out.to HB4.out)
          clear hbb3
          have n40 : wb3.cell? ⟨g, 0, none⟩ = some (.slice q.p0 q.T.spans.length q.c0) := HG4.out.cell 0 rfl
          have n41 : wb3.cell? ⟨g, 1, none⟩ = some (.slice q.p1 q.T.classes.length q.c1) := HG4.out.cell 1 rfl
          have n42 : wb3.cell? ⟨g, 2, none⟩ = some (.slice q.p2 q.T.pairs.length q.c2) := HG4.out.cell 2 rfl
          have n43 : wb3.cell? ⟨g, 3, none⟩ = some (.slice q.p3 q.T.ways.length q.c3) := HG4.out.cell 3 rfl
          have n44 : wb3.cell? ⟨g, 4, none⟩ = some (.slice q.p4 q.T.joins.length q.c4) := HG4.out.cell 4 rfl
          go_wp2
          go_ret
          exact ⟨by rw [HZ.out]; rfl, HB4.out⟩
        | true =>
          have HV3 := Lib.hid hv3
          clear hv3
          have HBB := Lib.hid hb
          clear hb
          go_wp2_with fail
          refine (ways_any q _).mono ?_
          rintro e wa3 ⟨rfl, hba3⟩
          have HBa3 := Lib.hid (bel2 HB3.out hba3)
          clear hba3
          go_wp2_with fail
          refine (rise_way q.v3 q.T.ways true HV3.out _ (by have := HF.out.y; unfold maxLen; omega) (HT.out.y.below HBa3.out) ).mono ?_
          rintro e wb3 ⟨rfl, hbb3⟩
          have HB4 := Lib.hid (bel2 HBa3.out hbb3)
          have hs4 := HB4.out.size
          have HG4 := Lib.hid (HG0.out.to HB4.out)
          clear hbb3
          have n40 : wb3.cell? ⟨g, 0, none⟩ = some (.slice q.p0 q.T.spans.length q.c0) := HG4.out.cell 0 rfl
          have n41 : wb3.cell? ⟨g, 1, none⟩ = some (.slice q.p1 q.T.classes.length q.c1) := HG4.out.cell 1 rfl
          have n42 : wb3.cell? ⟨g, 2, none⟩ = some (.slice q.p2 q.T.pairs.length q.c2) := HG4.out.cell 2 rfl
          have n43 : wb3.cell? ⟨g, 3, none⟩ = some (.slice q.p3 q.T.ways.length q.c3) := HG4.out.cell 3 rfl
          have n44 : wb3.cell? ⟨g, 4, none⟩ = some (.slice q.p4 q.T.joins.length q.c4) := HG4.out.cell 4 rfl
          have hb := HBB.out
          clear HBB
          cases hv4 : riseF (-1) (q.T.joins.map fun x => (x.lo, x.hi)) with
          | false =>
            have HV4 := Lib.hid hv4
            have HZ : Hid (b = false) := Lib.hid (by rw [← hb]; simp [HV0.out, HV1.out, HV2.out, HV3.out, HV4.out])
            clear hb hv4
            go_wp2_with fail
            refine (joins_any q _).mono ?_
            rintro e wa4 ⟨rfl, hba4⟩
            have HBa4 := Lib.hid (bel2 HB4.out hba4)
            clear hba4
            go_wp2_with fail
            refine (rise_join q.v4 q.T.joins false HV4.out _ (by have := HF.out.j; unfold maxLen; omega) (HT.out.j.below HBa4.out) ).mono ?_
            rintro e wb4 ⟨rfl, hbb4⟩
            have HB5 := Lib.hid (bel2 HBa4.out hbb4)
            have hs5 := HB5.out.size
            have HG5 := Lib.hid (HG0.out.to HB5.out)
            clear hbb4
            go_wp2
            go_ret
            exact ⟨by rw [HZ.out]; rfl, HB5.out⟩
          | true =>
            have HV4 := Lib.hid hv4
            clear hv4
            have HBB := Lib.hid hb
            clear hb
            go_wp2_with fail
            refine (joins_any q _).mono ?_
            rintro e wa4 ⟨rfl, hba4⟩
            have HBa4 := Lib.hid (bel2 HB4.out hba4)
            clear hba4
            go_wp2_with fail
            refine (rise_join q.v4 q.T.joins true HV4.out _ (by have := HF.out.j; unfold maxLen; omega) (HT.out.j.below HBa4.out) ).mono ?_
            rintro e wb4 ⟨rfl, hbb4⟩
            have HB5 := Lib.hid (bel2 HBa4.out hbb4)
            have hs5 := HB5.out.size
            have HG5 := Lib.hid (HG0.out.to HB5.out)
            clear hbb4
            have hb := HBB.out
            clear HBB
            have HZ : Hid (b = true) := Lib.hid (by rw [← hb]; simp [HV0.out, HV1.out, HV2.out, HV3.out, HV4.out])
            go_wp2
            go_ret
            exact ⟨by rw [HZ.out]; rfl, HB5.out⟩
end Go.Proofs.YtbclodbneonipaaGreat
