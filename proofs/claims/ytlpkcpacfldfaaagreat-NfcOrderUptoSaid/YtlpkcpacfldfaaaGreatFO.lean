import Derived.Test.YtlpkcpacfldfaaaGreatAR
import Derived.Test.YtlpkcpacfldfaaaGreatGA
import Derived.Deep.RegionHeld3
namespace Go.Proofs.YtlpkcpacfldfaaaGreat
open Go.RowKit N
theorem wf_i32 {x : Int} (h0 : -2147483648 ≤ x) (h1 : x ≤ 2147483647) : (Lit.int .i32 x).wf = true := by
  simp only [Lit.wf, Bool.and_eq_true, decide_eq_true_eq]
  exact ⟨h0, h1⟩
theorem split_wf {r : Int} (h : syl r = true) : Wf32 (split r) := by
  have hr : 44032 ≤ r ∧ r ≤ 55203 := by simpa [syl] using h
  intro x hx
  unfold split at hx
  split at hx
  · simp only [List.mem_cons, List.not_mem_nil, or_false] at hx
    rcases hx with rfl | rfl <;> exact wf_i32 (by omega) (by omega)
  · simp only [List.mem_cons, List.not_mem_nil, or_false] at hx
    rcases hx with rfl | rfl | rfl <;> exact wf_i32 (by omega) (by omega)
theorem ap_wf {T : Tab} (hP : PairWf T) : ∀ (n : Nat) (r : Int), (Lit.int .i32 r).wf = true → Wf32 (ap T.pairs n r)
  | 0, r, h => fun x hx => by
    simp only [ap, List.mem_singleton] at hx
    subst hx; exact h
  | n + 1, r, h => by
    unfold ap
    split
    · rename_i hs; exact split_wf hs
    · split
      · intro x hx
        simp only [List.mem_singleton] at hx
        subst hx; exact h
      · rename_i p hp
        obtain ⟨hm, _⟩ := prL_some hp
        obtain ⟨_, ha, hb⟩ := hP p hm
        intro x hx
        rcases List.mem_append.1 hx with hx | hx
        · exact ap_wf hP n p.a ha x hx
        · split at hx
          · cases hx
          · exact ap_wf hP n p.b hb x hx
theorem apl_wf {T : Tab} (hP : PairWf T) {l : List Int} (h : Wf32 l) : Wf32 (apl T.pairs l) := fun x hx => by
  unfold apl at hx
  obtain ⟨r, hr, hx⟩ := List.mem_flatMap.1 hx
  exact ap_wf hP _ r (h r hr) x hx
theorem ord_wf {l : List Int} (h : Wf32 l) (f : Int → Int) : Wf32 (ord f l) := fun x hx => h x ((ord_perm f l).mem_iff.1 hx)
theorem apR_wf {T : Tab} (hP : PairWf T) {l : List Int} (h : Wf32 l) : Wf32 (apR T l).1 := by
  unfold apR
  split
  · intro x hx; cases hx
  · split
    · exact apl_wf hP h
    · intro x hx; cases hx
theorem apR_len (T : Tab) (l : List Int) : (apR T l).1.length ≤ 4096 := by
  unfold apR
  split
  · simp
  · split
    · assumption
    · simp
theorem own_base {w : World} {B B' : Nat} {v : Value} {l : List Int} (h : B ≤ B') (ho : Own w B' v l) : Own w B v l := by
  refine ⟨ho.1, ?_⟩
  rcases ho.2 with hn | ⟨g, cap, cur, e, hB, rest⟩
  · exact .inl hn
  · exact .inr ⟨g, cap, cur, e, Nat.le_trans h hB, rest⟩
/-- what Form answers -/
def foR (T : Tab) (l : List Int) : List Int × Int := if (apR T l).2 ≠ 0 then ([], (apR T l).2) else (tog T (ord (cls T) (apR T l).1), 0)
set_option maxRecDepth 20000 in
set_option maxHeartbeats 1000000 in
theorem form_is (q : TQ) (v : Value) (l : List Int) (R : List Int) (y : Int) (hR : foR q.T l = (R, y)) (w : World) (hv : RunesAt w v l) (hw : Wf32 l) (hl : l.length ≤ 35184372088320) (hT : TabAt w q) (hg : Good q.T) :
    Calls Tryz.prog 17 #[q.v, v] w fun e w' => ∃ v', e = .returned (.tuple #[v', .int .i64 y]) ∧ Own w' w.heap.size v' R ∧ Below w.heap.size w w' := by
  obtain ⟨p, cap, rfl, hc⟩ := id hv
  obtain ⟨R1, hR1⟩ : ∃ R1, (apR q.T l).1 = R1 := ⟨_, rfl⟩
  obtain ⟨c, hcc⟩ : ∃ c, (apR q.T l).2 = c := ⟨_, rfl⟩
  have hlen : R1.length ≤ 4096 := by rw [← hR1]; exact apR_len _ _
  have hwf1 : Wf32 R1 := by rw [← hR1]; exact apR_wf hg.p hw
  have HA : Hid (apR q.T l = (R1, c)) := Lib.hid (by rw [← hR1, ← hcc])
  have hR2 : (if c ≠ 0 then (([] : List Int), c) else (tog q.T (ord (cls q.T) R1), 0)) = (R, y) := by
    rw [← hR]; unfold foR; rw [hR1, hcc]
  have HR := Lib.hid hR2
  have HV := Lib.hid (And.intro hv (And.intro hw hl))
  have HT := Lib.hid (And.intro hT hg)
  have HW1 := Lib.hid hwf1
  have HG0 := Lib.hid (Has.new w (.cells q.cs 28))
  have HB0 := Lib.hid (bnew w (.cells q.cs 28))
  clear hv hc hR1 hcc hwf1 hR hR2 hw hT hg
  unfold TQ.v
  by_cases hz : c = 0
  · have HX : Hid (R = tog q.T (ord (cls q.T) R1) ∧ y = 0) := Lib.hid (by
      have h := HR.out
      rw [if_neg (by simp [hz])] at h
      injection h with h1 h2
      exact ⟨h1.symm, h2.symm⟩)
    have hzb : (c != 0) = false := by simp [hz]
    subst hz
    go_enter Tryz.func17, Tryz.ntmps17
    go_wp2_with fail
    refine (apart_is q (.slice p l.length cap) l R1 0 HA.out _ (HV.out.1.below HB0.out) HV.out.2.1 HV.out.2.2 (HT.out.1.below HB0.out) HT.out.2).mono ?_
    rintro e w1 ⟨v1, rfl, ho, hb1⟩
    have HG1 := Lib.hid (HG0.out.to hb1)
    have HB1 := Lib.hid (bel2 HB0.out hb1)
    obtain ⟨p1, c1, rfl, _⟩ := id ho.form
    have HO1 := Lib.hid ho.at
    have m0 : w1.cell? ⟨w.heap.size, 0, none⟩ = some (.slice q.p0 q.T.spans.length q.c0) := HG1.out.cell 0 rfl
    have m1 : w1.cell? ⟨w.heap.size, 1, none⟩ = some (.slice q.p1 q.T.classes.length q.c1) := HG1.out.cell 1 rfl
    have m2 : w1.cell? ⟨w.heap.size, 2, none⟩ = some (.slice q.p2 q.T.pairs.length q.c2) := HG1.out.cell 2 rfl
    have m3 : w1.cell? ⟨w.heap.size, 3, none⟩ = some (.slice q.p3 q.T.ways.length q.c3) := HG1.out.cell 3 rfl
    have m4 : w1.cell? ⟨w.heap.size, 4, none⟩ = some (.slice q.p4 q.T.joins.length q.c4) := HG1.out.cell 4 rfl
    clear hb1 ho
    go_wp2_with fail
    have HBd : Hid (Below w.heap.size w w1.drew) := Lib.hid HB1.out.drew
    have HOd : Hid (RunesAt w1.drew (.slice p1 R1.length c1) R1) := Lib.hid (HO1.out.below (Below.refl _ _).drew)
    have HGd : Hid (Has w1.drew w.heap.size (.cells q.cs 28)) := Lib.hid (HG1.out.to (Below.refl _ _).drew)
    obtain ⟨L2, hL2⟩ : ∃ L2, ord (cls q.T) R1 = L2 := ⟨_, rfl⟩
    have hL2l : L2.length ≤ 4096 := by rw [← hL2, ord_len]; exact hlen
    have HL2 := Lib.hid hL2
    have HW2 : Hid (Wf32 L2) := Lib.hid (by rw [← hL2]; exact ord_wf HW1.out _)
    have HL3 : Hid (tog q.T L2 = R) := Lib.hid (by rw [HX.out.1, HL2.out])
    clear hL2
    go_region_held3 (fun w' => w'.cell? ⟨w.heap.size, 0, none⟩ = some (.slice q.p0 q.T.spans.length q.c0) ∧ w'.cell? ⟨w.heap.size, 1, none⟩ = some (.slice q.p1 q.T.classes.length q.c1) ∧ w'.cell? ⟨w.heap.size, 2, none⟩ = some (.slice q.p2 q.T.pairs.length q.c2) ∧ w'.cell? ⟨w.heap.size, 3, none⟩ = some (.slice q.p3 q.T.ways.length q.c3) ∧ w'.cell? ⟨w.heap.size, 4, none⟩ = some (.slice q.p4 q.T.joins.length q.c4))
      (first | (exact ⟨HG3.out.cell 0 rfl, HG3.out.cell 1 rfl, HG3.out.cell 2 rfl, HG3.out.cell 3 rfl, HG3.out.cell 4 rfl⟩) | (exact ⟨HG2.out.cell 0 rfl, HG2.out.cell 1 rfl, HG2.out.cell 2 rfl, HG2.out.cell 3 rfl, HG2.out.cell 4 rfl⟩) | (exact ⟨HGd.out.cell 0 rfl, HGd.out.cell 1 rfl, HGd.out.cell 2 rfl, HGd.out.cell 3 rfl, HGd.out.cell 4 rfl⟩) | go_keep)
      (first | (go_at_call 23; refine (ordered_is q (.slice p1 R1.length c1) R1 L2 HL2.out _ HOd.out (by omega) (HT.out.1.below HBd.out) HT.out.2.f).mono ?_; rintro e w2 ⟨v2, rfl, ho2, hb2⟩; have HB2 := Lib.hid (bel2 HBd.out hb2); have HG2 := Lib.hid (HGd.out.to hb2); have HO2 := Lib.hid ho2.at; clear hb2; obtain ⟨p2, c2, rfl, _⟩ := id ho2.form; clear ho2) | (go_at_call 25; refine (together_is q (.slice p2 L2.length c2) L2 R HL3.out _ HO2.out HW2.out (by omega) (HT.out.1.below HB2.out) HT.out.2.f HT.out.2.p).mono ?_; rintro e w3 ⟨v3, rfl, ho3, hb3⟩; have HB3 := Lib.hid (bel2 HB2.out hb3); have HG3 := Lib.hid (HG2.out.to hb3); have HO3 : Hid (Own w3 w.heap.size v3 R) := Lib.hid (own_base HB2.out.size ho3); clear hb3 ho3))
    obtain ⟨p3, c3, rfl, _⟩ := id HO3.out.form
    go_wp2
    go_ret2
    exact ⟨_, by rw [HX.out.2]; rfl, HO3.out, HB3.out⟩
  · have HX : Hid (R = [] ∧ y = c) := Lib.hid (by
      have h := HR.out
      rw [if_pos hz] at h
      injection h with h1 h2
      exact ⟨h1.symm, h2.symm⟩)
    have hzb : (c != 0) = true := by simp [hz]
    clear hz
    go_enter Tryz.func17, Tryz.ntmps17
    go_wp2_with fail
    refine (apart_is q (.slice p l.length cap) l R1 c HA.out _ (HV.out.1.below HB0.out) HV.out.2.1 HV.out.2.2 (HT.out.1.below HB0.out) HT.out.2).mono ?_
    rintro e w1 ⟨v1, rfl, ho, hb1⟩
    have HB1 := Lib.hid (bel2 HB0.out hb1)
    obtain ⟨p1, c1, rfl, _⟩ := id ho.form
    clear hb1 ho
    go_wp2
    go_ret2
    refine ⟨.slice none 0 0, by rw [HX.out.2]; rfl, ?_, HB1.out⟩
    rw [HX.out.1]
    exact World.ownsRow_nil _ _ _ _
/-- what Is answers -/
def isR (T : Tab) (l : List Int) : Bool × Int := if (foR T l).2 ≠ 0 then (false, (foR T l).2) else (decide ((foR T l).1 = l), 0)
theorem foR_len (T : Tab) (l : List Int) : (foR T l).1.length ≤ 4096 := by
  unfold foR
  split
  · simp
  · have h1 := tog_len T (ord (cls T) (apR T l).1)
    rw [ord_len] at h1
    have h2 := apR_len T l
    simp only
    omega
set_option maxRecDepth 20000 in
set_option maxHeartbeats 1000000 in
theorem is_is (q : TQ) (v : Value) (l : List Int) (b : Bool) (y : Int) (hR : isR q.T l = (b, y)) (w : World) (hv : RunesAt w v l) (hw : Wf32 l) (hl : l.length ≤ 35184372088320) (hT : TabAt w q) (hg : Good q.T) :
    Calls Tryz.prog 19 #[q.v, v] w fun e w' => e = .returned (.tuple #[.bool b, .int .i64 y]) ∧ Below w.heap.size w w' := by
  obtain ⟨p, cap, rfl, hc⟩ := id hv
  obtain ⟨R1, hR1⟩ : ∃ R1, (foR q.T l).1 = R1 := ⟨_, rfl⟩
  obtain ⟨c, hcc⟩ : ∃ c, (foR q.T l).2 = c := ⟨_, rfl⟩
  have hlen : R1.length ≤ 4096 := by rw [← hR1]; exact foR_len _ _
  have HA : Hid (foR q.T l = (R1, c)) := Lib.hid (by rw [← hR1, ← hcc])
  have hR2 : (if c ≠ 0 then (false, c) else (decide (R1 = l), 0)) = (b, y) := by
    rw [← hR]; unfold isR; rw [hR1, hcc]
  have HR := Lib.hid hR2
  have HV := Lib.hid (And.intro hv (And.intro hw hl))
  have HT := Lib.hid (And.intro hT hg)
  have HB0 := Lib.hid (bnew w (.cells q.cs 28))
  clear hv hc hR1 hcc hR hR2 hw hT hg
  unfold TQ.v
  by_cases hz : c = 0
  · have HX : Hid (decide (R1 = l) = b ∧ y = 0) := Lib.hid (by
      have h := HR.out
      rw [if_neg (by simp [hz])] at h
      injection h with h1 h2
      exact ⟨h1, h2.symm⟩)
    have hzb : (c != 0) = false := by simp [hz]
    subst hz
    go_enter Tryz.func19, Tryz.ntmps19
    go_wp2_with fail
    refine (form_is q (.slice p l.length cap) l R1 0 HA.out _ (HV.out.1.below HB0.out) HV.out.2.1 HV.out.2.2 (HT.out.1.below HB0.out) HT.out.2).mono ?_
    rintro e w1 ⟨v1, rfl, ho, hb1⟩
    have HB1 := Lib.hid (bel2 HB0.out hb1)
    obtain ⟨p1, c1, rfl, _⟩ := id ho.form
    have HO1 := Lib.hid ho.at
    clear hb1 ho
    go_wp2_with fail
    refine (equal_is _ _ R1 l b HX.out.1 (by omega) _ HO1.out (HV.out.1.below HB1.out)).mono ?_
    rintro e w2 ⟨rfl, hb2⟩
    have HB2 := Lib.hid (bel2 HB1.out hb2)
    clear hb2
    go_wp2
    go_ret2
    exact ⟨by rw [HX.out.2]; rfl, HB2.out⟩
  · have HX : Hid (b = false ∧ y = c) := Lib.hid (by
      have h := HR.out
      rw [if_pos hz] at h
      injection h with h1 h2
      exact ⟨h1.symm, h2.symm⟩)
    have hzb : (c != 0) = true := by simp [hz]
    clear hz
    go_enter Tryz.func19, Tryz.ntmps19
    go_wp2_with fail
    refine (form_is q (.slice p l.length cap) l R1 c HA.out _ (HV.out.1.below HB0.out) HV.out.2.1 HV.out.2.2 (HT.out.1.below HB0.out) HT.out.2).mono ?_
    rintro e w1 ⟨v1, rfl, ho, hb1⟩
    have HB1 := Lib.hid (bel2 HB0.out hb1)
    obtain ⟨p1, c1, rfl, _⟩ := id ho.form
    clear hb1 ho
    go_wp2
    go_ret2
    exact ⟨by rw [HX.out.1, HX.out.2]; rfl, HB1.out⟩
end Go.Proofs.YtlpkcpacfldfaaaGreat
