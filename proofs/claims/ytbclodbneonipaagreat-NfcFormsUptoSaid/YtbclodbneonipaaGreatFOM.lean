import Derived.Test.YtbclodbneonipaaGreatQCM
import Derived.Test.YtbclodbneonipaaGreatTGM
import Derived.Deep.RegionHeld3
namespace Go.Proofs.YtbclodbneonipaaGreat
open Go.RowKit N
theorem wf_i32 {x : Int} (h0 : -2147483648 ≤ x) (h1 : x ≤ 2147483647) : (Lit.int .i32 x).wf = true := by
  simp only [Lit.wf, Bool.and_eq_true, decide_eq_true_eq]
  exact ⟨h0, h1⟩
theorem split_wf {r : Int} (h : syl r = true) : Wf32 (split r) := by
  have hr : 44032 ≤ r ∧ r ≤ 55203 := by simpa [syl] using h
  intro x hx
  unfold split at hx
  split at hx
  · simp only [List.mem_cons, List.not_mem_nil, or_false] at hx
    rcases hx with rfl | rfl <;> exact wf_i32 (by omega) (by omega)
  · simp only [List.mem_cons, List.not_mem_nil, or_false] at hx
    rcases hx with rfl | rfl | rfl <;> exact wf_i32 (by omega) (by omega)
theorem ap_wf {T : Tab} (hP : PairWf T) : ∀ (n : Nat) (r : Int), (Lit.int .i32 r).wf = true → Wf32 (ap T.pairs n r)
  | 0, r, h => fun x hx => by
    simp only [ap, List.mem_singleton] at hx
    subst hx; exact h
  | n + 1, r, h => by
    unfold ap
    split
    · rename_i hs; exact split_wf hs
    · split
      · intro x hx
        simp only [List.mem_singleton] at hx
        subst hx; exact h
      · rename_i p hp
        obtain ⟨hm, _⟩ := prL_some hp
        obtain ⟨_, ha, hb⟩ := hP p hm
        intro x hx
        rcases List.mem_append.1 hx with hx | hx
        · exact ap_wf hP n p.a ha x hx
        · split at hx
          · cases hx
          · exact ap_wf hP n p.b hb x hx
theorem apl_wf {T : Tab} (hP : PairWf T) {l : List Int} (h : Wf32 l) : Wf32 (apl T.pairs l) := fun x hx => by
  unfold apl at hx
  obtain ⟨r, hr, hx⟩ := List.mem_flatMap.1 hx
  exact ap_wf hP _ r (h r hr) x hx
theorem ord_wf {l : List Int} (h : Wf32 l) (f : Int → Int) : Wf32 (ord f l) := fun x hx => h x ((ord_perm f l).mem_iff.1 hx)
theorem apR_wf {T : Tab} (hP : PairWf T) {l : List Int} (h : Wf32 l) : Wf32 (apR T l).1 := by
  unfold apR
  split
  · intro x hx; cases hx
  · split
    · exact apl_wf hP h
    · intro x hx; cases hx
theorem apR_len (T : Tab) (l : List Int) : (apR T l).1.length ≤ 4096 := by
  unfold apR
  split
  · simp
  · split
    · assumption
    · simp
theorem own_base {w : World} {B B' : Nat} {v : Value} {l : List Int} (h : B ≤ B') (ho : Own w B' v l) : Own w B v l := by
  refine ⟨ho.1, ?_⟩
  rcases ho.2 with hn | ⟨g, cap, cur, e, hB, rest⟩
  · exact .inl hn
  · exact .inr ⟨g, cap, cur, e, Nat.le_trans h hB, rest⟩
/-- what Form answers -/
def foR (T : Tab) (l : List Int) : List Int × Int := if (apR T l).2 ≠ 0 then ([], (apR T l).2) else (tog T (ord (cls T) (apR T l).1), 0)
set_option maxRecDepth 20000 in
set_option maxHeartbeats 1000000 in
theorem form_is (q : TQ) (v : Value) (l : List Int) (R : List Int) (y : Int) (hR : foR q.T l = (R, y)) (w : World) (hv : RunesAt w v l) (hw : Wf32 l) (hl : l.length ≤ 35184372088320) (hT : TabAt w q) (hg : Good q.T) :
    Calls Tryz.prog 10 #[q.v, v] w fun e w' => ∃ v', e = .returned (.tuple #[v', .int .i64 y]) ∧ Own w' w.heap.size v' R ∧ Below w.heap.size w w' := by
  obtain ⟨p, cap, rfl, hc⟩ := id hv
  obtain ⟨R1, hR1⟩ : ∃ R1, (apR q.T l).1 = R1 := ⟨_, rfl⟩
  obtain ⟨c, hcc⟩ : ∃ c, (apR q.T l).2 = c := ⟨_, rfl⟩
  have hlen : R1.length ≤ 4096 := by rw [← hR1]; exact apR_len _ _
  have hwf1 : Wf32 R1 := by rw [← hR1]; exact apR_wf hg.p hw
  have HA : Hid (apR q.T l = (R1, c)) := Lib.hid (by rw [← hR1, ← hcc])
  have hR2 : (if c ≠ 0 then (([] : List Int), c) else (tog q.T (ord (cls q.T) R1), 0)) = (R, y) := by
    rw [← hR]; unfold foR; rw [hR1, hcc]
  have HR := Lib.hid hR2
  have HV := Lib.hid (And.intro hv (And.intro hw hl))
  have HT := Lib.hid (And.intro hT hg)
  have HW1 := Lib.hid hwf1
  have HG0 := Lib.hid (Has.new w (.cells q.cs 28))
  have HB0 := Lib.hid (bnew w (.cells q.cs 28))
  clear hv hc hR1 hcc hwf1 hR hR2 hw hT hg
  unfold TQ.v
  by_cases hz : c = 0
  · have HX : Hid (R = tog q.T (ord (cls q.T) R1) ∧ y = 0) := Lib.hid (by
      have h := HR.out
      rw [if_neg (by simp [hz])] at h
      injection h with h1 h2
      exact ⟨h1.symm, h2.symm⟩)
    have hzb : (c != 0) = false := by simp [hz]
    subst hz
    go_enter Tryz.func10, Tryz.ntmps10
    go_wp2_with fail
    refine (apart_is q (.slice p l.length cap) l R1 0 HA.out _ (HV.out.1.below HB0.out) HV.out.2.1 HV.out.2.2 (HT.out.1.below HB0.out) HT.out.2).mono ?_
    rintro e w1 ⟨v1, rfl, ho, hb1⟩
    have HG1 := Lib.hid (HG0.out.to hb1)
    have HB1 := Lib.hid (bel2 HB0.out hb1)
    obtain ⟨p1, c1, rfl, _⟩ := id ho.form
    have HO1 := Lib.hid ho.at
    have m0 : w1.cell? ⟨w.heap.size, 0, none⟩ = some (.slice q.p0 q.T.spans.length q.c0) := HG1.out.cell 0 rfl
    have m1 : w1.cell? ⟨w.heap.size, 1, none⟩ = some (.slice q.p1 q.T.classes.length q.c1) := HG1.out.cell 1 rfl
    have m2 : w1.cell? ⟨w.heap.size, 2, none⟩ = some (.slice q.p2 q.T.pairs.length q.c2) := HG1.out.cell 2 rfl
    have m3 : w1.cell? ⟨w.heap.size, 3, none⟩ = some (.slice q.p3 q.T.ways.length q.c3) := HG1.out.cell 3 rfl
    have m4 : w1.cell? ⟨w.heap.size, 4, none⟩ = some (.slice q.p4 q.T.joins.length q.c4) := HG1.out.cell 4 rfl
    clear hb1 ho
    go_wp2_with fail
    have HBd : Hid (Below w.heap.size w w1.drew) := Lib.hid HB1.out.drew
    have HOd : Hid (RunesAt w1.drew (.slice p1 R1.length c1) R1) := Lib.hid (HO1.out.below (Below.refl _ _).drew)
    have HGd : Hid (Has w1.drew w.heap.size (.cells q.cs 28)) := Lib.hid (HG1.out.to (Below.refl _ _).drew)
    obtain ⟨L2, hL2⟩ : ∃ L2, ord (cls q.T) R1 = L2 := ⟨_, rfl⟩
    have hL2l : L2.length ≤ 4096 := by rw [← hL2, ord_len]; exact hlen
    have HL2 := Lib.hid hL2
    have HW2 : Hid (Wf32 L2) := Lib.hid (by rw [← hL2]; exact ord_wf HW1.out _)
    have HL3 : Hid (tog q.T L2 = R) := Lib.hid (by rw [HX.out.1, HL2.out])
    clear hL2
    go_region_held3 (fun w' => w'.cell? ⟨w.heap.size, 0, none⟩ = some (.slice q.p0 q.T.spans.length q.c0) ∧ w'.cell? ⟨w.heap.size, 1, none⟩ = some (.slice q.p1 q.T.classes.length q.c1) ∧ w'.cell? ⟨w.heap.size, 2, none⟩ = some (.slice q.p2 q.T.pairs.length q.c2) ∧ w'.cell? ⟨w.heap.size, 3, none⟩ = some (.slice q.p3 q.T.ways.length q.c3) ∧ w'.cell? ⟨w.heap.size, 4, none⟩ = some (.slice q.p4 q.T.joins.length q.c4))
      (first | (exact ⟨HG3.out.cell 0 rfl, HG3.out.cell 1 rfl, HG3.out.cell 2 rfl, HG3.out.cell 3 rfl, HG3.out.cell 4 rfl⟩) | (exact ⟨HG2.out.cell 0 rfl, HG2.out.cell 1 rfl, HG2.out.cell 2 rfl, HG2.out.cell 3 rfl, HG2.out.cell 4 rfl⟩) | (exact ⟨HGd.out.cell 0 rfl, HGd.out.cell 1 rfl, HGd.out.cell 2 rfl, HGd.out.cell 3 rfl, HGd.out.cell 4 rfl⟩) | go_keep)
      (first | (go_at_call 16; refine (ordered_is q (.slice p1 R1.length c1) R1 L2 HL2.out _ HOd.out (by omega) (HT.out.1.below HBd.out) HT.out.2.f).mono ?_; rintro e w2 ⟨v2, rfl, ho2, hb2⟩; have HB2 := Lib.hid (bel2 HBd.out hb2); have HG2 := Lib.hid (HGd.out.to hb2); have HO2 := Lib.hid ho2.at; clear hb2; obtain ⟨p2, c2, rfl, _⟩ := id ho2.form; clear ho2) | (go_at_call 18; refine (together_is q (.slice p2 L2.length c2) L2 R HL3.out _ HO2.out HW2.out (by omega) (HT.out.1.below HB2.out) HT.out.2.f HT.out.2.p).mono ?_; rintro e w3 ⟨v3, rfl, ho3, hb3⟩; have HB3 := Lib.hid (bel2 HB2.out hb3); have HG3 := Lib.hid (HG2.out.to hb3); have HO3 : Hid (Own w3 w.heap.size v3 R) := Lib.hid (own_base HB2.out.size ho3); clear hb3 ho3))
    obtain ⟨p3, c3, rfl, _⟩ := id HO3.out.form
    go_wp2
    go_ret2
    exact ⟨_, by rw [HX.out.2]; rfl, HO3.out, HB3.out⟩
  · have HX : Hid (R = [] ∧ y = c) := Lib.hid (by
      have h := HR.out
      rw [if_pos hz] at h
      injection h with h1 h2
      exact ⟨h1.symm, h2.symm⟩)
    have hzb : (c != 0) = true := by simp [hz]
    clear hz
    go_enter Tryz.func10, Tryz.ntmps10
    go_wp2_with fail
    refine (apart_is q (.slice p l.length cap) l R1 c HA.out _ (HV.out.1.below HB0.out) HV.out.2.1 HV.out.2.2 (HT.out.1.below HB0.out) HT.out.2).mono ?_
    rintro e w1 ⟨v1, rfl, ho, hb1⟩
    have HB1 := Lib.hid (bel2 HB0.out hb1)
    obtain ⟨p1, c1, rfl, _⟩ := id ho.form
    clear hb1 ho
    go_wp2
    go_ret2
    refine ⟨.slice none 0 0, by rw [HX.out.2]; rfl, ?_, HB1.out⟩
    rw [HX.out.1]
    exact World.ownsRow_nil _ _ _ _
/-- what Is answers -/
def isR (T : Tab) (l : List Int) : Bool × Int := if (foR T l).2 ≠ 0 then (false, (foR T l).2) else (decide ((foR T l).1 = l), 0)
theorem foR_len (T : Tab) (l : List Int) : (foR T l).1.length ≤ 4096 := by
  unfold foR
  split
  · simp
  · have h1 := tog_len T (ord (cls T) (apR T l).1)
    rw [ord_len] at h1
    have h2 := apR_len T l
    simp only
    omega
set_option maxRecDepth 20000 in
set_option maxHeartbeats 1000000 in
theorem is_is (q : TQ) (v : Value) (l : List Int) (b : Bool) (y : Int) (hR : isR q.T l = (b, y)) (w : World) (hv : RunesAt w v l) (hw : Wf32 l) (hl : l.length ≤ 35184372088320) (hT : TabAt w q) (hg : Good q.T) :
    Calls Tryz.prog 12 #[q.v, v] w fun e w' => e = .returned (.tuple #[.bool b, .int .i64 y]) ∧ Below w.heap.size w w' := by
  obtain ⟨p, cap, rfl, hc⟩ := id hv
  obtain ⟨R1, hR1⟩ : ∃ R1, (foR q.T l).1 = R1 := ⟨_, rfl⟩
  obtain ⟨c, hcc⟩ : ∃ c, (foR q.T l).2 = c := ⟨_, rfl⟩
  have hlen : R1.length ≤ 4096 := by rw [← hR1]; exact foR_len _ _
  have HA : Hid (foR q.T l = (R1, c)) := Lib.hid (by rw [← hR1, ← hcc])
  have hR2 : (if c ≠ 0 then (false, c) else (decide (R1 = l), 0)) = (b, y) := by
    rw [← hR]; unfold isR; rw [hR1, hcc]
  have HR := Lib.hid hR2
  have HV := Lib.hid (And.intro hv (And.intro hw hl))
  have HT := Lib.hid (And.intro hT hg)
  have HB0 := Lib.hid (bnew w (.cells q.cs 28))
  clear hv hc hR1 hcc hR hR2 hw hT hg
  unfold TQ.v
  by_cases hz : c = 0
  · have HX : Hid (decide (R1 = l) = b ∧ y = 0) := Lib.hid (by
      have h := HR.out
      rw [if_neg (by simp [hz])] at h
      injection h with h1 h2
      exact ⟨h1, h2.symm⟩)
    have hzb : (c != 0) = false := by simp [hz]
    subst hz
    go_enter Tryz.func12, Tryz.ntmps12
    go_wp2_with fail
    refine (form_is q (.slice p l.length cap) l R1 0 HA.out _ (HV.out.1.below HB0.out) HV.out.2.1 HV.out.2.2 (HT.out.1.below HB0.out) HT.out.2).mono ?_
    rintro e w1 ⟨v1, rfl, ho, hb1⟩
    have HB1 := Lib.hid (bel2 HB0.out hb1)
    obtain ⟨p1, c1, rfl, _⟩ := id ho.form
    have HO1 := Lib.hid ho.at
    clear hb1 ho
    go_wp2_with fail
    refine (equal_is _ _ R1 l b HX.out.1 (by omega) _ HO1.out (HV.out.1.below HB1.out)).mono ?_
    rintro e w2 ⟨rfl, hb2⟩
    have HB2 := Lib.hid (bel2 HB1.out hb2)
    clear hb2
    go_wp2
    go_ret2
    exact ⟨by rw [HX.out.2]; rfl, HB2.out⟩
  · have HX : Hid (b = false ∧ y = c) := Lib.hid (by
      have h := HR.out
      rw [if_pos hz] at h
      injection h with h1 h2
      exact ⟨h1.symm, h2.symm⟩)
    have hzb : (c != 0) = true := by simp [hz]
    clear hz
    go_enter Tryz.func12, Tryz.ntmps12
    go_wp2_with fail
    refine (form_is q (.slice p l.length cap) l R1 c HA.out _ (HV.out.1.below HB0.out) HV.out.2.1 HV.out.2.2 (HT.out.1.below HB0.out) HT.out.2).mono ?_
    rintro e w1 ⟨v1, rfl, ho, hb1⟩
    have HB1 := Lib.hid (bel2 HB0.out hb1)
    obtain ⟨p1, c1, rfl, _⟩ := id ho.form
    clear hb1 ho
    go_wp2
    go_ret2
    exact ⟨by rw [HX.out.1, HX.out.2]; rfl, HB1.out⟩
end Go.Proofs.YtbclodbneonipaaGreat
/-
  The mathematics of layer 4, third part: Hangul over a table without anything. Program-free.
-/
namespace Go.Proofs.YtbclodbneonipaaGreat.N
def T0 : Tab := ⟨[], [], [], [], []⟩
theorem falls_nil : Falls [] := fun p hp => by cases hp
theorem cls_T0 (r : Int) : cls T0 r = 0 := rfl
theorem both_T0 (a b : Int) : both T0 a b = hang a b := by
  unfold both
  cases hang a b with
  | some x => rfl
  | none => simp [ptL, T0]
theorem apt_nil (r : Int) : apt [] r = if syl r then split r else [r] := by
  rw [apt_eq falls_nil]; rfl
theorem ord_T0 (l : List Int) : ord (cls T0) l = l := by
  have : ∀ l, ord (cls T0) l = l := SM.S_ind rfl fun l r h => by rw [ord_snoc, h, ins_zero (cls_T0 r)]
  exact this l
theorem hang_apt {a b x : Int} (h : hang a b = some x) : apt [] x = apt [] a ++ [b] := by
  unfold hang at h
  split at h
  · rename_i hc
    obtain ⟨h1, h2, h3, h4⟩ := hc
    simp only [Option.some.injEq] at h
    subst h
    have hs : syl (44032 + ((a - 4352) * 21 + (b - 4449)) * 28) = true := by simp [syl]; omega
    have hn : syl a = false := by simp [syl]; omega
    rw [apt_nil, apt_nil, if_pos hs, if_neg (by rw [hn]; simp)]
    unfold split
    have e1 : (44032 + ((a - 4352) * 21 + (b - 4449)) * 28 - 44032) % 28 = 0 := by omega
    rw [if_pos e1]
    have e2 : 4352 + (44032 + ((a - 4352) * 21 + (b - 4449)) * 28 - 44032) / 588 = a := by omega
    have e3 : 4449 + (44032 + ((a - 4352) * 21 + (b - 4449)) * 28 - 44032) % 588 / 28 = b := by omega
    rw [e2, e3]; rfl
  · split at h
    · rename_i hc
      obtain ⟨h1, h2, h3, h4⟩ := hc
      simp only [Option.some.injEq] at h
      subst h
      have ha : 44032 ≤ a ∧ a ≤ 55203 := by simpa [syl] using h1
      have hs : syl (a + (b - 4519)) = true := by simp [syl]; omega
      rw [apt_nil, apt_nil, if_pos hs, if_pos h1]
      unfold split
      rw [if_neg (by omega), if_pos h2]
      have e1 : (a + (b - 4519) - 44032) / 588 = (a - 44032) / 588 := by omega
      have e2 : (a + (b - 4519) - 44032) % 588 / 28 = (a - 44032) % 588 / 28 := by omega
      have e3 : 4519 + (a + (b - 4519) - 44032) % 28 = b := by omega
      rw [e1, e2, e3]; rfl
    · cases h
/-- over a table without anything the last starter is the last rune -/
theorem tgl_T0 : ∀ l : List Int, (tgl T0 l).st = ((tgl T0 l).out.length : Int) - 1 ∧ ((∀ r ∈ l, syl r = false) → apl [] (tgl T0 l).out = l) := SM.S_ind ⟨by simp [tgl, tg0], fun _ => rfl⟩ fun l r ih => by
  obtain ⟨h1, h2⟩ := ih
  rw [tgl_snoc]
  generalize hg : tgl T0 l = g at h1 h2
  have hpush : (push g r 0).st = ((push g r 0).out.length : Int) - 1 := by simp [push]
  have hpa : (∀ x ∈ l ++ [r], syl x = false) → apl [] (push g r 0).out = l ++ [r] := fun h => by
    have hr : syl r = false := h r (by simp)
    show apl [] (g.out ++ [r]) = _
    rw [apl_app, h2 (fun x hx => h x (by simp [hx])), apl_cons, apt_nil, if_neg (by rw [hr]; simp)]
    rfl
  unfold tstep
  rw [cls_T0]
  split
  · rename_i hc
    rw [both_T0]
    split
    · rename_i x hx
      have hst := hc.1
      have hs : g.st.toNat = g.out.length - 1 := by omega
      have hlen : 0 < g.out.length := by omega
      refine ⟨by simp [h1], fun h => ?_⟩
      have hl := h2 (fun y hy => h y (by simp [hy]))
      have hr : syl r = false := h r (by simp)
      obtain ⟨P, a, hP⟩ : ∃ P a, g.out = P ++ [a] := ⟨g.out.dropLast, g.out.getLast (by intro e; rw [e] at hlen; simp at hlen), (List.dropLast_concat_getLast _).symm⟩
      have hs2 : g.st.toNat = P.length := by rw [hs, hP]; simp
      have hget : g.out.getD g.st.toNat 0 = a := by rw [hs2, hP]; simp [List.getD]
      rw [hget] at hx
      show apl [] (g.out.set g.st.toNat x) = _
      rw [hs2, hP, List.set_append_right _ _ (Nat.le_refl _), Nat.sub_self, List.set_cons_zero, apl_app, apl_cons, hang_apt hx]
      rw [hP, apl_app, apl_cons] at hl
      rw [← hl]
      simp [apl]
    · exact ⟨hpush, hpa⟩
  · exact ⟨hpush, hpa⟩
theorem apl_tog {l : List Int} (h : ∀ r ∈ l, syl r = false) : apl [] (tog T0 l) = l := (tgl_T0 l).2 h
theorem split_no (r : Int) (h : syl r = true) : ∀ x ∈ split r, syl x = false := by
  have hr : 44032 ≤ r ∧ r ≤ 55203 := by simpa [syl] using h
  intro x hx
  unfold split at hx
  split at hx <;> simp only [List.mem_cons, List.not_mem_nil, or_false] at hx
  · rcases hx with rfl | rfl <;> simp [syl] <;> omega
  · rcases hx with rfl | rfl | rfl <;> simp [syl] <;> omega
theorem apl_no (l : List Int) : ∀ x ∈ apl [] l, syl x = false := by
  intro x hx
  unfold apl at hx
  obtain ⟨r, _, hr⟩ := List.mem_flatMap.1 hx
  rw [apt_nil] at hr
  split at hr
  · rename_i h; exact split_no r h x hr
  · rename_i h; simp at hr; subst hr; simpa using h
/-- over a table without anything a form is its own form -/
theorem form_form (l : List Int) : tog T0 (ord (cls T0) (apl [] (tog T0 (ord (cls T0) (apl [] l))))) = tog T0 (ord (cls T0) (apl [] l)) := by
  rw [ord_T0, ord_T0, apl_tog (apl_no l)]
theorem form_len (l : List Int) : apl [] (tog T0 (ord (cls T0) (apl [] l))) = apl [] l := by rw [ord_T0, apl_tog (apl_no l)]
theorem tog_two {a b x : Int} (h : hang a b = some x) : tgl T0 [a, b] = ⟨[x], 0, 0⟩ := by
  have e : tgl T0 [a, b] = tstep T0 (tstep T0 tg0 a) b := rfl
  have e1 : tstep T0 tg0 a = ⟨[a], 0, 0⟩ := by
    unfold tstep tg0
    simp [push, cls_T0]
  rw [e, e1]
  unfold tstep
  simp [both_T0, h]
theorem tog_split (r : Int) (h : syl r = true) : tog T0 (split r) = [r] := by
  have hr : 44032 ≤ r ∧ r ≤ 55203 := by simpa [syl] using h
  unfold tog split
  have h1 : hang (4352 + (r - 44032) / 588) (4449 + (r - 44032) % 588 / 28) = some (r - (r - 44032) % 28) := by
    unfold hang
    rw [if_pos (by omega)]
    congr 1; omega
  split
  · rename_i hz
    rw [tog_two h1, hz]; simp
  · rename_i hz
    have h2 : hang (r - (r - 44032) % 28) (4519 + (r - 44032) % 28) = some r := by
      unfold hang
      rw [if_neg (by omega), if_pos ⟨by simp [syl]; omega, by omega, by omega, by omega⟩]
      congr 1; omega
    have e : tgl T0 [4352 + (r - 44032) / 588, 4449 + (r - 44032) % 588 / 28, 4519 + (r - 44032) % 28] = tstep T0 (tgl T0 [4352 + (r - 44032) / 588, 4449 + (r - 44032) % 588 / 28]) (4519 + (r - 44032) % 28) := rfl
    rw [e, tog_two h1]
    unfold tstep
    simp [both_T0, h2]
end Go.Proofs.YtbclodbneonipaaGreat.N
namespace Go.Proofs.YtbclodbneonipaaGreat
open Go.RowKit N
def T1 : Tab := ⟨[], [⟨769, 230⟩], [⟨940, 97, 769, false⟩], [], []⟩
theorem ev1 : apR T1 [940] = ([97, 769], 0) := by decide +kernel
theorem ev2 : foR T1 [97, 769] = ([940], 0) := by decide +kernel
theorem ev3 : foR T0 [4352, 4449, 4520] = ([44033], 0) := by decide +kernel
theorem good1 : Good T1 := by
  refine ⟨⟨by decide, by decide, by decide, by decide, by decide, ?_, ?_, ?_, ?_⟩, ?_, ?_⟩
  · intro x hx; simp [T1] at hx; subst hx; decide
  · intro x hx; simp [T1] at hx
  · intro x hx; simp [T1] at hx
  · intro x hx; simp [T1] at hx
  · intro x hx; simp [T1] at hx; subst hx; decide
  · intro x hx; simp [T1] at hx
theorem good0 : Good T0 := by
  refine ⟨⟨by decide, by decide, by decide, by decide, by decide, ?_, ?_, ?_, ?_⟩, ?_, ?_⟩
  all_goals (intro x hx; simp [T0] at hx)
def q1 (g : Nat) : TQ := ⟨T1, none, some ⟨g, 0, none⟩, some ⟨g + 1, 0, none⟩, none, none, 0, 1, 1, 0, 0⟩
def q0 : TQ := ⟨T0, none, none, none, none, none, 0, 0, 0, 0, 0⟩
theorem lst_nil {α : Type} (w : World) (k : Nat) (enc : α → List Value) : Lst w k enc (.slice none 0 0) [] := ⟨none, 0, rfl, fun _ => rfl, fun i x h => by simp at h⟩
theorem lst_one {α : Type} {w : World} {k g : Nat} {t : TypeId} {enc : α → List Value} {x : α} (h : Has w g (.cells (enc x).toArray t)) : Lst w k enc (.slice (some ⟨g, 0, none⟩) 1 1) [x] := by
  refine ⟨some ⟨g, 0, none⟩, 1, rfl, (fun h => by cases h), fun i y hi => ?_⟩
  cases i with
  | zero =>
    simp only [List.getElem?_cons_zero, Option.some.injEq] at hi
    subst hi
    refine ⟨g, 0, rfl, h.lt, fun j u hj => ?_⟩
    have := h.cell j (v := u) (by simpa using hj)
    simpa using this
  | succ i => simp at hi
theorem tab0 (w : World) : TabAt w q0 := ⟨lst_nil _ _ _, lst_nil _ _ _, lst_nil _ _ _, lst_nil _ _ _, lst_nil _ _ _, fun x hx => by cases hx⟩
theorem tab1 {w : World} {g : Nat} {t u : TypeId} (h1 : Has w g (.cells #[.int .i32 769, .int .u8 230] t)) (h2 : Has w (g + 1) (.cells #[.int .i32 940, .int .i32 97, .int .i32 769, .bool false] u)) : TabAt w (q1 g) :=
  ⟨lst_nil _ _ _, lst_one (x := (⟨769, 230⟩ : Cl)) h1, lst_one (x := (⟨940, 97, 769, false⟩ : Pa)) h2, lst_nil _ _ _, lst_nil _ _ _, fun x hx => by cases hx⟩
theorem wf_lits : Wf32 [940] ∧ Wf32 [97, 769] ∧ Wf32 [4352, 4449, 4520] := by
  refine ⟨?_, ?_, ?_⟩ <;> (intro x hx; simp at hx; rcases hx with rfl | rfl | rfl <;> decide)
abbrev bA : Obj := .cells #[.int .i32 769, .int .u8 230] 50
abbrev bB : Obj := .cells #[.int .i32 940, .int .i32 97, .int .i32 769, .bool false] 52
abbrev bC (g : Nat) : Obj := .cells #[.slice none 0 0, .slice (some ⟨g, 0, none⟩) 1 1, .slice (some ⟨g + 1, 0, none⟩) 1 1, .slice none 0 0, .slice none 0 0] 28
/-- the three blocks of the table -/
def Three (w : World) (g : Nat) : Prop := Has w g bA ∧ Has w (g + 1) bB ∧ Has w (g + 1 + 1) (bC g)
theorem Three.to {w w' : World} {g : Nat} (h : Three w g) (hb : Below w.heap.size w w') : Three w' g := ⟨h.1.to hb, h.2.1.to hb, h.2.2.to hb⟩
theorem three_new (w : World) : Three (((w.alloc bA).alloc bB).alloc (bC w.heap.size)) w.heap.size := by
  refine ⟨((Has.new w bA).alloc _).alloc _, ?_, ?_⟩
  · have := (Has.new (w.alloc bA) bB).alloc (bC w.heap.size)
    rw [World.size_alloc] at this
    exact this
  · have := Has.new ((w.alloc bA).alloc bB) (bC w.heap.size)
    rw [World.size_alloc, World.size_alloc] at this
    exact this
set_option maxRecDepth 20000 in
set_option maxHeartbeats 1000000 in
theorem lives_is (w : World) : Calls Tryz.prog 14 #[] w fun e w' => e = .returned (.bool true) ∧ Below w.heap.size w w' := by
  have HB3 : Hid (Below w.heap.size w (((w.alloc bA).alloc bB).alloc (bC w.heap.size))) := Lib.hid (((bnew w _).alloc (by simp) _).alloc (by simp; omega) _)
  have HT3 := Lib.hid (three_new w)
  obtain ⟨G, hG⟩ : ∃ G, w.heap.size = G := ⟨_, rfl⟩
  go_enter Tryz.func14, Tryz.ntmps14
  go_wp2_with fail
  rw [hG] at HT3 HB3
  obtain ⟨w3, hw3⟩ : ∃ w3, w3 = ((w.alloc bA).alloc bB).alloc (bC G) := ⟨_, rfl⟩
  have hs3 : w3.heap.size = G + 1 + 1 + 1 := by rw [hw3, World.size_alloc, World.size_alloc, World.size_alloc, hG]
  rw [← hw3] at HB3 HT3
  simp only [← hw3, ← hs3]
  have hr0 := runes_lit (l := [940]) (Has.new w3 (.cells #[.int .i32 940] 21)) 1
  have hb0 := bnew w3 (.cells #[.int .i32 940] 21)
  have HT4 := Lib.hid (HT3.out.to hb0)
  have HB4 : Hid (Below G w (w3.alloc (.cells #[.int .i32 940] 21))) := Lib.hid (HB3.out.alloc (by omega) _)
  clear hw3 hb0 HT3 HB3
  refine (apart_is (q1 G) (.slice (some ⟨w3.heap.size, 0, none⟩) 1 1) [940] [97, 769] 0 ev1 _ hr0 wf_lits.1 (by decide) (tab1 HT4.out.1 HT4.out.2.1) good1).mono ?_
  rintro e w1 ⟨v1, rfl, ho1, hb1⟩
  have HT5 := Lib.hid (HT4.out.to hb1)
  have HB5 : Hid (Below G w w1) := Lib.hid (HB4.out.trans (hb1.mono (by have := HB4.out.size; omega)))
  have HO1 := Lib.hid ho1.at
  obtain ⟨p1, c1, rfl, _⟩ := id ho1.form
  clear HT4 HB4 ho1 hb1 hs3 hr0
  have n0 : w1.cell? ⟨G + 1 + 1, 0, none⟩ = some (.slice none 0 0) := HT5.out.2.2.cell 0 rfl
  have n1 : w1.cell? ⟨G + 1 + 1, 1, none⟩ = some (.slice (some ⟨G, 0, none⟩) 1 1) := HT5.out.2.2.cell 1 rfl
  have n2 : w1.cell? ⟨G + 1 + 1, 2, none⟩ = some (.slice (some ⟨G + 1, 0, none⟩) 1 1) := HT5.out.2.2.cell 2 rfl
  have n3 : w1.cell? ⟨G + 1 + 1, 3, none⟩ = some (.slice none 0 0) := HT5.out.2.2.cell 3 rfl
  have n4 : w1.cell? ⟨G + 1 + 1, 4, none⟩ = some (.slice none 0 0) := HT5.out.2.2.cell 4 rfl
  go_wp2_with fail
  have hr1 := runes_lit (l := [97, 769]) (Has.new w1 (.cells #[.int .i32 97, .int .i32 769] 21)) 2
  have hb1 := bnew w1 (.cells #[.int .i32 97, .int .i32 769] 21)
  have HT6 := Lib.hid (HT5.out.to hb1)
  have HB6 : Hid (Below G w (w1.alloc (.cells #[.int .i32 97, .int .i32 769] 21))) := Lib.hid (HB5.out.alloc (by have := HB5.out.size; omega) _)
  have HO6 := Lib.hid (HO1.out.below hb1)
  clear n0 n1 n2 n3 n4 hb1 HT5 HB5 HO1
  refine (form_is (q1 G) (.slice (some ⟨w1.heap.size, 0, none⟩) 2 2) [97, 769] [940] 0 ev2 _ hr1 wf_lits.2.1 (by decide) (tab1 HT6.out.1 HT6.out.2.1) good1).mono ?_
  rintro e w2 ⟨v2, rfl, ho2, hb2⟩
  have HB7 : Hid (Below G w w2) := Lib.hid (HB6.out.trans (hb2.mono (by have := HB6.out.size; omega)))
  have HO7 := Lib.hid (HO6.out.below hb2)
  have HP7 := Lib.hid ho2.at
  obtain ⟨p2, c2, rfl, _⟩ := id ho2.form
  clear HT6 HB6 HO6 ho2 hb2 hr1
  go_wp2_with fail
  have hr2 := runes_lit (l := [4352, 4449, 4520]) (Has.new w2 (.cells #[.int .i32 4352, .int .i32 4449, .int .i32 4520] 21)) 3
  have hb2 := bnew w2 (.cells #[.int .i32 4352, .int .i32 4449, .int .i32 4520] 21)
  have HB8 : Hid (Below G w (w2.alloc (.cells #[.int .i32 4352, .int .i32 4449, .int .i32 4520] 21))) := Lib.hid (HB7.out.alloc (by have := HB7.out.size; omega) _)
  have HO8 := Lib.hid (And.intro (HO7.out.below hb2) (HP7.out.below hb2))
  clear hb2 HB7 HO7 HP7
  refine (form_is q0 (.slice (some ⟨w2.heap.size, 0, none⟩) 3 3) [4352, 4449, 4520] [44033] 0 ev3 _ hr2 wf_lits.2.2 (by decide) (tab0 _) good0).mono ?_
  rintro e w3 ⟨v3, rfl, ho3, hb3⟩
  have HB9 : Hid (Below G w w3) := Lib.hid (HB8.out.trans (hb3.mono (by have := HB8.out.size; omega)))
  have HO9 := Lib.hid (And.intro (HO8.out.1.below hb3) (And.intro (HO8.out.2.below hb3) ho3.at))
  obtain ⟨p3, c3, rfl, _⟩ := id ho3.form
  clear HB8 HO8 ho3 hb3 hr2
  go_wp2_with fail
  have hra := runes_lit (l := [97, 769]) (Has.new w3 (.cells #[.int .i32 97, .int .i32 769] 21)) 2
  have hba := bnew w3 (.cells #[.int .i32 97, .int .i32 769] 21)
  refine (same_is _ _ [97, 769] [97, 769] true (by decide) (by decide) _ (HO9.out.1.below hba) hra).mono ?_
  rintro e w4 ⟨rfl, hb4⟩
  have HB10 : Hid (Below G w w4) := Lib.hid ((HB9.out.alloc (by have := HB9.out.size; omega) _).trans (hb4.mono (by rw [World.size_alloc]; have := HB9.out.size; omega)))
  have HO10 := Lib.hid (And.intro ((HO9.out.2.1.below hba).below hb4) ((HO9.out.2.2.below hba).below hb4))
  clear HB9 HO9 hra hba hb4
  go_wp2_with fail
  have hra := runes_lit (l := [940]) (Has.new w4 (.cells #[.int .i32 940] 21)) 1
  have hba := bnew w4 (.cells #[.int .i32 940] 21)
  refine (same_is _ _ [940] [940] true (by decide) (by decide) _ (HO10.out.1.below hba) hra).mono ?_
  rintro e w5 ⟨rfl, hb5⟩
  have HB11 : Hid (Below G w w5) := Lib.hid ((HB10.out.alloc (by have := HB10.out.size; omega) _).trans (hb5.mono (by rw [World.size_alloc]; have := HB10.out.size; omega)))
  have HO11 := Lib.hid ((HO10.out.2.below hba).below hb5)
  clear HB10 HO10 hra hba hb5
  go_wp2_with fail
  have hra := runes_lit (l := [44033]) (Has.new w5 (.cells #[.int .i32 44033] 21)) 1
  have hba := bnew w5 (.cells #[.int .i32 44033] 21)
  refine (same_is _ _ [44033] [44033] true (by decide) (by decide) _ (HO11.out.below hba) hra).mono ?_
  rintro e w6 ⟨rfl, hb6⟩
  have HB12 : Hid (Below G w w6) := Lib.hid ((HB11.out.alloc (by have := HB11.out.size; omega) _).trans (hb6.mono (by rw [World.size_alloc]; have := HB11.out.size; omega)))
  clear HB11 HO11 hra hba hb6
  go_wp2
  go_ret
  exact ⟨rfl, by rw [hG]; exact HB12.out⟩
end Go.Proofs.YtbclodbneonipaaGreat
