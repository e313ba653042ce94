import Derived.Test.YtbclodbneonipaaGreatFOM
import Derived.Deep.RegionHeld3
namespace Go.Proofs.YtbclodbneonipaaGreat
open Go.RowKit N
theorem apR_app {T : Tab} {a b z : List Int} (h : apR T (a ++ b) = (z, 0)) : apR T a = (apl T.pairs a, 0) ∧ apR T b = (apl T.pairs b, 0) ∧ z = apl T.pairs a ++ apl T.pairs b := by
  unfold apR at h
  split at h
  · rename_i hc
    injection h with _ h2
    exact absurd h2 hc
  · rename_i hc
    split at h
    · rename_i hl
      injection h with h1 _
      rw [apl_app, List.length_append] at hl
      refine ⟨?_, ?_, by rw [← h1, apl_app]⟩
      · unfold apR; rw [if_neg hc, if_pos (by omega)]
      · unfold apR; rw [if_neg hc, if_pos (by omega)]
    · injection h with _ h2; exact absurd h2 (by decide)
theorem apR_err {T : Tab} {l z : List Int} {y : Int} (h : apR T l = (z, y)) (hy : y ≠ 0) : z = [] := by
  unfold apR at h
  split at h
  · injection h with h1 _; exact h1.symm
  · split at h
    · injection h with _ h2; exact absurd h2.symm hy
    · injection h with h1 _; exact h1.symm
theorem foR_of {T : Tab} {l z : List Int} (h : apR T l = (z, 0)) : foR T l = (tog T (ord (cls T) z), 0) := by
  unfold foR
  rw [h]
  simp
theorem own_nilc {w : World} {B : Nat} {v : Value} {l : List Int} (h : Own w B v l) : ∀ n c, v = .slice none n c → n = 0 ∧ c = 0 := fun n c e => by
  rcases h.2 with ⟨e', _⟩ | ⟨_, _, _, e', _⟩
  · rw [e'] at e; injection e with _ e1 e2; exact ⟨e1.symm, e2.symm⟩
  · rw [e'] at e; injection e with e1; cases e1
theorem own_lit0 (w : World) : Own (w.alloc (.cells #[] 21)) w.heap.size (.slice (some ⟨w.heap.size, 0, none⟩) 0 0) [] :=
  ⟨rfl, .inr ⟨w.heap.size, 0, #[], rfl, Nat.le_refl _, heap_alloc_new w _, Nat.le_refl _, by decide, rfl, rfl⟩⟩
theorem step_append_runes_g {P : Program} {w : World} {ops : Array Oper} {o : Oper} {a : Act} {K : Act → World → Prop} {Q : Exit → Act → World → Prop} {E : Prop} (hw : Region.wanted o (yielded ops a.tmps) = true) (s x : Operand)
    (ho : o.op = .call { callee := .builtin .append, args := #[s, x], argTypes := #[29, 29] })
    (base : Nat) (i : TypeInfo) (ht : P.underlying 29 = some (.slice 21)) (hi : P.info? 21 = some i) (hz : i.zero = some (.int .i32 0)) (hsize : i.size = 1) (hby : i.bytes = 4)
    (v : Value) (n : Nat) (xs : List Value) (hs : a.eval s = v) (hown : w.ownsRow base 21 1 v n xs) (v2 : Value) (l2 : List Int) (hx : a.eval x = v2) (h2 : RunesAt w v2 l2) (hn2 : ∀ n c, v2 = .slice none n c → n = 0 ∧ c = 0)
    (h63 : n + l2.length ≤ maxLen) (hbytes : (n + l2.length) * 4 ≤ 140737488355328) (hbase : base ≤ w.heap.size)
    (h : ∀ v' w', w'.ownsRow base 21 1 v' (n + l2.length) (xs ++ l2.map (Value.int .i32)) → w.grownBy w' v.ownBlock → K (a.put o.dst v') w') :
    if Region.wanted o (yielded ops a.tmps) = true then Oper.wp P o a w K Q else E := by
  rw [if_pos hw]
  obtain ⟨p, cap, rfl, _⟩ := id h2
  cases p with
  | none =>
    obtain ⟨e1, e2⟩ := hn2 _ _ rfl
    have hy : l2 = [] := List.eq_nil_of_length_eq_zero e1
    subst hy e2
    have hrun := run_append_owned_none (P := P) (w := w) base 29 o.type 21 i 1 ht hi v n xs hown
    unfold Oper.wp
    simp [execOp, ho, resolve, invoke, builtin, hs, hx, hrun, Result.andThen]
    refine (h v w ?_ (grownBy_same _ _))
    simpa using hown
  | some ad =>
    have hlm : (l2.map (Value.int .i32)).length = l2.length * 1 := by simp
    exact wp_append_own w s x 29 ho base 21 i (.int .i32 0) 1 4 ht hi hz hsize hby rfl (by decide) v n xs hs hown ad l2.length cap (l2.map (Value.int .i32)) hx hlm (runes_news h2) (runes_one _) h63 hbytes hbase (fun v' w' a b _ => h v' w' a b)
set_option maxRecDepth 20000 in
set_option maxHeartbeats 2000000 in
theorem NfcParts_walk (q : TQ) (va : Value) (a : List Int) (vb : Value) (b : List Int) (w : World) (ha : RunesAt w va a) (na : ∀ n c, va = .slice none n c → n = 0 ∧ c = 0) (wa : Wf32 a) (la : a.length ≤ 1048576) (hb : RunesAt w vb b) (nb : ∀ n c, vb = .slice none n c → n = 0 ∧ c = 0) (wb : Wf32 b) (lb : b.length ≤ 1048576) (hT : TabAt w q) (hg : Good q.T) :
    Calls Tryz.prog 6 #[q.v, va, vb] w fun e w' => e = .returned (.bool true) ∧ Below w.heap.size w w' := by
  obtain ⟨i0, hi, hz0, hz1, hz2⟩ := info_parts infoRune
  obtain ⟨pa, ca, rfl, hca⟩ := id ha
  obtain ⟨pb, cb, rfl, hcb⟩ := id hb
  obtain ⟨X, hX⟩ : ∃ X, (apR q.T a).1 = X := ⟨_, rfl⟩
  obtain ⟨x, hx⟩ : ∃ x, (apR q.T a).2 = x := ⟨_, rfl⟩
  obtain ⟨Y, hY⟩ : ∃ Y, (apR q.T b).1 = Y := ⟨_, rfl⟩
  obtain ⟨y, hy⟩ : ∃ y, (apR q.T b).2 = y := ⟨_, rfl⟩
  obtain ⟨Z, hZ⟩ : ∃ Z, (apR q.T (a ++ b)).1 = Z := ⟨_, rfl⟩
  obtain ⟨z, hz⟩ : ∃ z, (apR q.T (a ++ b)).2 = z := ⟨_, rfl⟩
  have hXl : X.length ≤ 4096 := by rw [← hX]; exact apR_len _ _
  have hYl : Y.length ≤ 4096 := by rw [← hY]; exact apR_len _ _
  have hZl : Z.length ≤ 4096 := by rw [← hZ]; exact apR_len _ _
  have HX : Hid (apR q.T a = (X, x)) := Lib.hid (by rw [← hX, ← hx])
  have HY : Hid (apR q.T b = (Y, y)) := Lib.hid (by rw [← hY, ← hy])
  have HZ : Hid (apR q.T (a ++ b) = (Z, z)) := Lib.hid (by rw [← hZ, ← hz])
  have wab : Wf32 (a ++ b) := fun r hr => by
    rcases List.mem_append.1 hr with h | h
    · exact wa r h
    · exact wb r h
  have HZw : Hid (Wf32 Z) := Lib.hid (by rw [← hZ]; exact apR_wf hg.p wab)
  have lab : (a ++ b).length ≤ 2097152 := by rw [List.length_append]; omega
  have HLA := Lib.hid lab
  have HA := Lib.hid (And.intro ha (And.intro na wa))
  have HB := Lib.hid (And.intro hb (And.intro nb wb))
  have HAB := Lib.hid wab
  have HT := Lib.hid (And.intro hT hg)
  have HG0 := Lib.hid (Has.new w (.cells q.cs 28))
  have HB0 := Lib.hid (bnew w (.cells q.cs 28))
  clear ha hb na nb wa wb hca hcb hX hx hY hy hZ hz hT hg wab lab
  unfold TQ.v
  go_enter Tryz.func6, Tryz.ntmps6
  go_wp2_with fail
  refine (lives_is _).mono ?_
  rintro e w1 ⟨rfl, hb1⟩
  have HG1 := Lib.hid ((HG0.out.to hb1).alloc (.cells #[] 21))
  have HB1 := Lib.hid ((bel2 HB0.out hb1).alloc (bel2 HB0.out hb1).size (.cells #[] 21))
  have HO1 : Hid (Own (w1.alloc (.cells #[] 21)) w.heap.size (.slice (some ⟨w1.heap.size, 0, none⟩) 0 0) []) := Lib.hid (own_base (bel2 HB0.out hb1).size (own_lit0 w1))
  have HS1 : Hid (w.heap.size ≤ (w1.alloc (.cells #[] 21)).heap.size) := Lib.hid HB1.out.size
  have HBw := Lib.hid (bel2 HB0.out hb1)
  clear hb1
  go_wp2_with (at_builtin; first | (refine wpList_append_runes (by rfl) _ _ rfl w.heap.size i0 Tryz.underlying29 hi hz0 hz1 hz2 v3 ([] ++ a).length (([] ++ a).map (Value.int .i32)) rfl HO3.out (.slice pb b.length cb) b rfl (HB.out.1.below HB3.out) HB.out.2.1 (by simp only [List.nil_append]; unfold maxLen; omega) (by simp only [List.nil_append]; omega) HB3.out.size ?_; intro v4 w4 hown4 hgrow4; have HG4 := Lib.hid (has_past (v := v3) HG3.out hgrow4 (own_ne HO3.out HG3.out (by decide))); have HO4 : Hid (Own w4 w.heap.size v4 (([] ++ a) ++ b)) := Lib.hid (own_app hown4); have HB4 := Lib.hid (bel_grown (v := v3) HB3.out HO3.out hgrow4 HB3.out.size); clear hown4 hgrow4; have m0 : w4.cell? ⟨w.heap.size, 0, none⟩ = some (.slice q.p0 q.T.spans.length q.c0) := HG4.out.cell 0 rfl; have m1 : w4.cell? ⟨w.heap.size, 1, none⟩ = some (.slice q.p1 q.T.classes.length q.c1) := HG4.out.cell 1 rfl; have m2 : w4.cell? ⟨w.heap.size, 2, none⟩ = some (.slice q.p2 q.T.pairs.length q.c2) := HG4.out.cell 2 rfl; have m3 : w4.cell? ⟨w.heap.size, 3, none⟩ = some (.slice q.p3 q.T.ways.length q.c3) := HG4.out.cell 3 rfl; have m4 : w4.cell? ⟨w.heap.size, 4, none⟩ = some (.slice q.p4 q.T.joins.length q.c4) := HG4.out.cell 4 rfl) | (refine wpList_append_runes (by rfl) _ _ rfl w.heap.size i0 Tryz.underlying29 hi hz0 hz1 hz2 (.slice (some ⟨w1.heap.size, 0, none⟩) 0 0) 0 [] rfl HO1.out (.slice pa a.length ca) a rfl (HA.out.1.below HB1.out) HA.out.2.1 (by unfold maxLen; omega) (by omega) HS1.out ?_; intro v3 w3 hown3 hgrow3; have HG3 := Lib.hid (has_past (v := .slice (some ⟨w1.heap.size, 0, none⟩) 0 0) HG1.out hgrow3 (own_ne HO1.out HG1.out (by decide))); have HO3 : Hid (Own w3 w.heap.size v3 ([] ++ a)) := Lib.hid (own_app (l := []) hown3); have HB3 := Lib.hid (bel_grown (v := .slice (some ⟨w1.heap.size, 0, none⟩) 0 0) HB1.out HO1.out hgrow3 HS1.out); clear hown3 hgrow3))
  have HR4 : Hid (RunesAt w4 v4 (a ++ b)) := Lib.hid (by have := HO4.out.at; simpa using this)
  refine (apart_is q (.slice pa a.length ca) a X x HX.out _ (HA.out.1.below HB4.out) HA.out.2.2 (by omega) (HT.out.1.below HB4.out) HT.out.2).mono ?_
  rintro e w5 ⟨v5, rfl, ho5, hb5⟩
  have HG5 := Lib.hid (HG4.out.to hb5)
  have HB5 := Lib.hid (bel2 HB4.out hb5)
  have HR5 := Lib.hid (HR4.out.below hb5)
  have HX5 := Lib.hid ho5.at
  have HXn := Lib.hid (own_nilc ho5)
  obtain ⟨p5, c5, rfl, _⟩ := id ho5.form
  clear ho5 hb5 m0 m1 m2 m3 m4
  have m0 : w5.cell? ⟨w.heap.size, 0, none⟩ = some (.slice q.p0 q.T.spans.length q.c0) := HG5.out.cell 0 rfl
  have m1 : w5.cell? ⟨w.heap.size, 1, none⟩ = some (.slice q.p1 q.T.classes.length q.c1) := HG5.out.cell 1 rfl
  have m2 : w5.cell? ⟨w.heap.size, 2, none⟩ = some (.slice q.p2 q.T.pairs.length q.c2) := HG5.out.cell 2 rfl
  have m3 : w5.cell? ⟨w.heap.size, 3, none⟩ = some (.slice q.p3 q.T.ways.length q.c3) := HG5.out.cell 3 rfl
  have m4 : w5.cell? ⟨w.heap.size, 4, none⟩ = some (.slice q.p4 q.T.joins.length q.c4) := HG5.out.cell 4 rfl
  go_wp2_with fail
  refine (apart_is q (.slice pb b.length cb) b Y y HY.out _ (HB.out.1.below HB5.out) HB.out.2.2 (by omega) (HT.out.1.below HB5.out) HT.out.2).mono ?_
  rintro e w6 ⟨v6, rfl, ho6, hb6⟩
  have HG6 := Lib.hid (HG5.out.to hb6)
  have HB6 := Lib.hid (bel2 HB5.out hb6)
  have HR6 := Lib.hid (HR5.out.below hb6)
  have HX6 := Lib.hid (HX5.out.below hb6)
  have HY6 := Lib.hid ho6.at
  have HYn := Lib.hid (own_nilc ho6)
  obtain ⟨p6, c6, rfl, _⟩ := id ho6.form
  clear ho6 hb6 m0 m1 m2 m3 m4
  have m0 : w6.cell? ⟨w.heap.size, 0, none⟩ = some (.slice q.p0 q.T.spans.length q.c0) := HG6.out.cell 0 rfl
  have m1 : w6.cell? ⟨w.heap.size, 1, none⟩ = some (.slice q.p1 q.T.classes.length q.c1) := HG6.out.cell 1 rfl
  have m2 : w6.cell? ⟨w.heap.size, 2, none⟩ = some (.slice q.p2 q.T.pairs.length q.c2) := HG6.out.cell 2 rfl
  have m3 : w6.cell? ⟨w.heap.size, 3, none⟩ = some (.slice q.p3 q.T.ways.length q.c3) := HG6.out.cell 3 rfl
  have m4 : w6.cell? ⟨w.heap.size, 4, none⟩ = some (.slice q.p4 q.T.joins.length q.c4) := HG6.out.cell 4 rfl
  go_wp2_with fail
  refine (apart_is q v4 (a ++ b) Z z HZ.out _ HR6.out HAB.out (by have := HLA.out; omega) (HT.out.1.below HB6.out) HT.out.2).mono ?_
  rintro e w7 ⟨v7, rfl, ho7, hb7⟩
  have HG7 := Lib.hid (HG6.out.to hb7)
  have HB7 := Lib.hid (bel2 HB6.out hb7)
  have HR7 := Lib.hid (HR6.out.below hb7)
  have HX7 := Lib.hid (HX6.out.below hb7)
  have HY7 := Lib.hid (HY6.out.below hb7)
  have HZ7 := Lib.hid ho7.at
  obtain ⟨p7, c7, rfl, _⟩ := id ho7.form
  clear ho7 hb7 m0 m1 m2 m3 m4
  by_cases hz : z = 0
  · have hzb : (z != 0) = false := by simp [hz]
    subst hz
    obtain ⟨hx0, hy0, hz0'⟩ := apR_app HZ.out
    have hx1 := HX.out
    rw [hx0] at hx1
    injection hx1 with hx1 hx2
    have hy1 := HY.out
    rw [hy0] at hy1
    injection hy1 with hy1 hy2
    subst hx2 hy2
    have HE : Hid (Z = X ++ Y) := Lib.hid (by rw [hz0', hx1, hy1])
    obtain ⟨F, hF⟩ : ∃ F, tog q.T (ord (cls q.T) Z) = F := ⟨_, rfl⟩
    have HFo : Hid (foR q.T (a ++ b) = (F, 0)) := Lib.hid (by rw [foR_of HZ.out, hF])
    have hFl : F.length ≤ 4096 := by
      have h1 := foR_len q.T (a ++ b)
      rw [HFo.out] at h1
      exact h1
    obtain ⟨D, hD⟩ : ∃ D, ord (cls q.T) Z = D := ⟨_, rfl⟩
    have hDl : D.length ≤ 4096 := by rw [← hD, ord_len]; exact hZl
    have HD := Lib.hid hD
    have HDw : Hid (Wf32 D) := Lib.hid (by rw [← hD]; exact ord_wf HZw.out _)
    have HDF : Hid (tog q.T D = F) := Lib.hid (by rw [← hD]; exact hF)
    clear hx0 hy0 hz0' hx1 hy1 hF hD
    have m0 : w7.cell? ⟨w.heap.size, 0, none⟩ = some (.slice q.p0 q.T.spans.length q.c0) := HG7.out.cell 0 rfl
    have m1 : w7.cell? ⟨w.heap.size, 1, none⟩ = some (.slice q.p1 q.T.classes.length q.c1) := HG7.out.cell 1 rfl
    have m2 : w7.cell? ⟨w.heap.size, 2, none⟩ = some (.slice q.p2 q.T.pairs.length q.c2) := HG7.out.cell 2 rfl
    have m3 : w7.cell? ⟨w.heap.size, 3, none⟩ = some (.slice q.p3 q.T.ways.length q.c3) := HG7.out.cell 3 rfl
    have m4 : w7.cell? ⟨w.heap.size, 4, none⟩ = some (.slice q.p4 q.T.joins.length q.c4) := HG7.out.cell 4 rfl
    go_wp2_with fail
    refine (form_is q v4 (a ++ b) F 0 HFo.out _ HR7.out HAB.out (by have := HLA.out; omega) (HT.out.1.below HB7.out) HT.out.2).mono ?_
    rintro e w8 ⟨v8, rfl, ho8, hb8⟩
    have HG8 : Hid (Has w8.drew w.heap.size (.cells q.cs 28)) := Lib.hid ((HG7.out.to hb8).to (Below.refl _ w8).drew)
    have HB8 : Hid (Below w.heap.size w w8.drew) := Lib.hid (bel2 (bel2 HB7.out hb8) (Below.refl _ w8).drew)
    have HX8 : Hid (RunesAt w8.drew (.slice p5 X.length c5) X) := Lib.hid ((HX7.out.below hb8).below (Below.refl _ w8).drew)
    have HY8 : Hid (RunesAt w8.drew (.slice p6 Y.length c6) Y) := Lib.hid ((HY7.out.below hb8).below (Below.refl _ w8).drew)
    have HZ8 : Hid (RunesAt w8.drew (.slice p7 Z.length c7) Z) := Lib.hid ((HZ7.out.below hb8).below (Below.refl _ w8).drew)
    have HT8 : Hid (TabAt w8.drew q) := Lib.hid (HT.out.1.below HB8.out)
    obtain ⟨p8, c8, rfl, _⟩ := id ho8.form
    have HF8 : Hid (RunesAt w8.drew (.slice p8 F.length c8) F) := Lib.hid (ho8.at.below (Below.refl _ w8).drew)
    have HOa : Hid (Own (w8.drew.alloc (.cells #[] 21)) w8.drew.heap.size (.slice (some ⟨w8.heap.size, 0, none⟩) 0 0) []) := Lib.hid (own_lit0 w8.drew)
    have HQa : Hid (Below w8.drew.heap.size w8.drew (w8.drew.alloc (.cells #[] 21))) := Lib.hid (bnew w8.drew (.cells #[] 21))
    have HQ0 : Hid (Below w8.drew.heap.size w8.drew w8.drew) := Lib.hid (Below.refl _ _)
    clear ho8 hb8 m0 m1 m2 m3 m4
    go_wp2_with fail
    go_region_held3 (fun w' => w'.cell? ⟨w.heap.size, 0, none⟩ = some (.slice q.p0 q.T.spans.length q.c0) ∧ w'.cell? ⟨w.heap.size, 1, none⟩ = some (.slice q.p1 q.T.classes.length q.c1) ∧ w'.cell? ⟨w.heap.size, 2, none⟩ = some (.slice q.p2 q.T.pairs.length q.c2) ∧ w'.cell? ⟨w.heap.size, 3, none⟩ = some (.slice q.p3 q.T.ways.length q.c3) ∧ w'.cell? ⟨w.heap.size, 4, none⟩ = some (.slice q.p4 q.T.joins.length q.c4))
      (first | (exact ⟨(HG8.out.to HQf.out).cell 0 rfl, (HG8.out.to HQf.out).cell 1 rfl, (HG8.out.to HQf.out).cell 2 rfl, (HG8.out.to HQf.out).cell 3 rfl, (HG8.out.to HQf.out).cell 4 rfl⟩) | (exact ⟨(HG8.out.to HQe.out).cell 0 rfl, (HG8.out.to HQe.out).cell 1 rfl, (HG8.out.to HQe.out).cell 2 rfl, (HG8.out.to HQe.out).cell 3 rfl, (HG8.out.to HQe.out).cell 4 rfl⟩) | (exact ⟨(HG8.out.to HQc.out).cell 0 rfl, (HG8.out.to HQc.out).cell 1 rfl, (HG8.out.to HQc.out).cell 2 rfl, (HG8.out.to HQc.out).cell 3 rfl, (HG8.out.to HQc.out).cell 4 rfl⟩) | (exact ⟨(HG8.out.to HQb.out).cell 0 rfl, (HG8.out.to HQb.out).cell 1 rfl, (HG8.out.to HQb.out).cell 2 rfl, (HG8.out.to HQb.out).cell 3 rfl, (HG8.out.to HQb.out).cell 4 rfl⟩) | (exact ⟨(HG8.out.to HQy.out).cell 0 rfl, (HG8.out.to HQy.out).cell 1 rfl, (HG8.out.to HQy.out).cell 2 rfl, (HG8.out.to HQy.out).cell 3 rfl, (HG8.out.to HQy.out).cell 4 rfl⟩) | (exact ⟨(HG8.out.to HQx.out).cell 0 rfl, (HG8.out.to HQx.out).cell 1 rfl, (HG8.out.to HQx.out).cell 2 rfl, (HG8.out.to HQx.out).cell 3 rfl, (HG8.out.to HQx.out).cell 4 rfl⟩) | (exact ⟨(HG8.out.to HQa.out).cell 0 rfl, (HG8.out.to HQa.out).cell 1 rfl, (HG8.out.to HQa.out).cell 2 rfl, (HG8.out.to HQa.out).cell 3 rfl, (HG8.out.to HQa.out).cell 4 rfl⟩) | (exact ⟨(HG8.out.to HQ0.out).cell 0 rfl, (HG8.out.to HQ0.out).cell 1 rfl, (HG8.out.to HQ0.out).cell 2 rfl, (HG8.out.to HQ0.out).cell 3 rfl, (HG8.out.to HQ0.out).cell 4 rfl⟩) | go_keep)
      (first
        | (go_at_call 15; refine (same_is (.slice p8 F.length c8) vf F F true (by simp) (by omega) _ (HF8.out.below HQe.out) HOf.out).mono ?_; rintro e wf ⟨rfl, hbf⟩; have HQf := Lib.hid (bel2 HQe.out hbf); clear hbf)
        | (go_at_call 18; refine (together_is q vc D F HDF.out _ HOc.out HDw.out (by omega) (HT8.out.below HQc.out) HT.out.2.f HT.out.2.p).mono ?_; rintro e we ⟨vf, rfl, hoe, hbe⟩; have HQe := Lib.hid (bel2 HQc.out hbe); have HOf := Lib.hid hoe.at; clear hoe hbe)
        | (go_at_call 16; refine (ordered_is q (.slice p7 Z.length c7) Z D HD.out _ (HZ8.out.below HQb.out) (by omega) (HT8.out.below HQb.out) HT.out.2.f).mono ?_; rintro e wc ⟨vc, rfl, hoc, hbc⟩; have HQc := Lib.hid (bel2 HQb.out hbc); have HOc := Lib.hid hoc.at; clear hoc hbc)
        | (go_at_call 15; refine (same_is (.slice p7 Z.length c7) vy Z (([] ++ X) ++ Y) true (by rw [HE.out]; simp) (by omega) _ (HZ8.out.below HQy.out) HOy.out.at).mono ?_; rintro e wb ⟨rfl, hbb⟩; have HQb := Lib.hid (bel2 HQy.out hbb); clear hbb)
        | (refine step_append_runes_g (by rfl) _ _ (by rfl) w8.drew.heap.size i0 Tryz.underlying29 hi hz0 hz1 hz2 vx ([] ++ X).length (([] ++ X).map (Value.int .i32)) (by rfl) HOx.out (.slice p6 Y.length c6) Y (by rfl) (HY8.out.below HQx.out) HYn.out (by simp only [List.nil_append]; unfold maxLen; omega) (by simp only [List.nil_append]; omega) HQx.out.size ?_; intro vy wy hown4 hgrow4; have HOy : Hid (Own wy w8.drew.heap.size vy (([] ++ X) ++ Y)) := Lib.hid (own_app hown4); have HQy := Lib.hid (bel_grown (v := vx) HQx.out HOx.out hgrow4 HQx.out.size); clear hown4 hgrow4)
        | (refine step_append_runes_g (by rfl) _ _ (by rfl) w8.drew.heap.size i0 Tryz.underlying29 hi hz0 hz1 hz2 (.slice (some ⟨w8.heap.size, 0, none⟩) 0 0) 0 [] (by rfl) HOa.out (.slice p5 X.length c5) X (by rfl) (HX8.out.below HQa.out) HXn.out (by unfold maxLen; omega) (by omega) HQa.out.size ?_; intro vx wx hown3 hgrow3; have HOx : Hid (Own wx w8.drew.heap.size vx ([] ++ X)) := Lib.hid (own_app (l := []) hown3); have HQx := Lib.hid (bel_grown (v := .slice (some ⟨w8.heap.size, 0, none⟩) 0 0) HQa.out HOa.out hgrow3 HQa.out.size); clear hown3 hgrow3))
    go_wp2
    go_ret
    exact ⟨rfl, bel2 HB8.out HQf.out⟩
  · have hzb : (z != 0) = true := by simp [hz]
    have hZ0 : Z = [] := apR_err HZ.out hz
    have hZ1 : ((Z.length : Int) == 0) = true := by rw [hZ0]; rfl
    clear hz hZ0
    go_wp2
    go_ret
    exact ⟨by first | rfl | (rw [ret_bool]; exact hZ1) | simp [hZ1], HB7.out⟩
end Go.Proofs.YtbclodbneonipaaGreat
