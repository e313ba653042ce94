import Derived.Test.YtbclodbneonipaaGreatNS7M
import Derived.Test.YtbclodbneonipaaGreatCKM
namespace Go.Proofs.YtbclodbneonipaaGreat
open Go.RowKit N
def BothOut (q : TQ) (a b : Int) (e : Ending) : Prop := e = .returned (.tuple #[.int .i32 ((both q.T a b).getD 0), .bool (both q.T a b).isSome])
theorem both_h {T : Tab} {a b x : Int} (h : hang a b = some x) : both T a b = some x := by unfold both; rw [h]
theorem both_n {T : Tab} {a b : Int} (h : hang a b = none) : both T a b = ptL T.pairs a b := by unfold both; rw [h]
theorem TabAt.low {w w' : World} {q : TQ} (h : TabAt w q) (hb : Below w.heap.size w w') : TabAt w' q := h.below hb
set_option maxHeartbeats 2000000 in
theorem rboth_a (q : TQ) (a b : Int) (h1 : 4352 ≤ a) (h2 : a ≤ 4370) (h3 : 4449 ≤ b) (h4 : b ≤ 4469) (w : World) : Calls Tryz.prog 34 #[q.v, .int .i32 a, .int .i32 b] w fun e w' => BothOut q a b e ∧ Below w.heap.size w w' := by
  have HH := Lib.hid (both_h (T := q.T) (hang_a (a := a) (b := b) ⟨h1, by omega, h3, by omega⟩))
  have HB := Lib.hid (bnew w (Obj.cells q.cs 28))
  unfold BothOut TQ.v
  go_enter Tryz.func34, Tryz.ntmps34
  go_wp2
  go_ret2
  exact ⟨by rw [HH.out]; exact ret_ib (by simp; omega) rfl, HB.out⟩
set_option maxHeartbeats 4000000 in
theorem rboth_n1 (q : TQ) (a b : Int) (hp : ¬ 4352 ≤ a) (w : World) (h : TabAt w q) (hf : Fit q.T) : Calls Tryz.prog 34 #[q.v, .int .i32 a, .int .i32 b] w fun e w' => BothOut q a b e ∧ Below w.heap.size w w' := by
  have HN : Hid (¬ (4352 ≤ a ∧ a < 4371 ∧ 4449 ≤ b ∧ b < 4470)) := Lib.hid (by omega)
  have HB := Lib.hid (bnew w (Obj.cells q.cs 28))
  have HT := Lib.hid (And.intro (h.below (bnew w (Obj.cells q.cs 28))) hf)
  clear h hf
  unfold BothOut TQ.v
  go_enter Tryz.func34, Tryz.ntmps34
  go_wp2_with fail
  refine (rsyl_any a _).mono ?_
  rintro e w' ⟨rfl, rfl⟩
  by_cases hs : syl a = true
  · exact absurd hs (by simp only [syl, Bool.and_eq_true, decide_eq_true_eq]; omega)
  · have HC := Lib.hid (both_n (T := q.T) (hang_c HN.out (fun k => hs k.1)))
    rw [Bool.eq_false_iff.2 hs]
    clear hs
    go_wp2_with fail
    refine (rput_is q a b _ rfl _ HT.out.1 HT.out.2).mono ?_
    rintro e w1 ⟨rfl, hb⟩
    have HX := Lib.hid (HB.out.trans (hb.mono (by simp)))
    clear hb
    go_wp2
    go_ret2
    exact ⟨by rw [HC.out]; rfl, HX.out⟩
set_option maxHeartbeats 4000000 in
theorem rboth_n2 (q : TQ) (a b : Int) (h1 : 4352 ≤ a) (hp : ¬ a ≤ 4370) (w : World) (h : TabAt w q) (hf : Fit q.T) : Calls Tryz.prog 34 #[q.v, .int .i32 a, .int .i32 b] w fun e w' => BothOut q a b e ∧ Below w.heap.size w w' := by
  have HN : Hid (¬ (4352 ≤ a ∧ a < 4371 ∧ 4449 ≤ b ∧ b < 4470)) := Lib.hid (by omega)
  have HB := Lib.hid (bnew w (Obj.cells q.cs 28))
  have HT := Lib.hid (And.intro (h.below (bnew w (Obj.cells q.cs 28))) hf)
  clear h hf
  unfold BothOut TQ.v
  go_enter Tryz.func34, Tryz.ntmps34
  go_wp2_with fail
  refine (rsyl_any a _).mono ?_
  rintro e w' ⟨rfl, rfl⟩
  by_cases hs : syl a = true
  · have hsr : 44032 ≤ a ∧ a ≤ 55203 := by simpa [syl] using hs
    have ws : wrap32 (a - 44032) = a - 44032 := by unfold wrap32; omega
    have wt : (a - 44032).tmod 28 = (a - 44032) % 28 := Int.tmod_eq_emod_of_nonneg (by omega)
    have HSY := Lib.hid hs
    by_cases hm : (a - 44032) % 28 = 0
    · have hm1 : ((a - 44032) % 28 == 0) = true := by simpa using hm
      by_cases h5 : 4520 ≤ b
      · by_cases h6 : b ≤ 4546
        · have HC := Lib.hid (both_h (T := q.T) (hang_b HN.out ⟨HSY.out, hm, by omega, by omega⟩))
          have wsum : wrap32 (a + b) = a + b := by unfold wrap32; omega
          have wsub : wrap32 (a + b - 4519) = a + b - 4519 := by unfold wrap32; omega
          clear hm
          rw [hs]
          clear hs
          go_wp2
          go_ret2
          exact ⟨by rw [HC.out]; exact ret_ib (by simp; omega) rfl, HB.out⟩
        · have HC := Lib.hid (both_n (T := q.T) (hang_c HN.out (fun k => by omega)))
          clear hm
          rw [hs]
          clear hs
          go_wp2_with fail
          refine (rput_is q a b _ rfl _ HT.out.1 HT.out.2).mono ?_
          rintro e w1 ⟨rfl, hb⟩
          have HX := Lib.hid (HB.out.trans (hb.mono (by simp)))
          clear hb
          go_wp2
          go_ret2
          exact ⟨by rw [HC.out]; rfl, HX.out⟩
      · have HC := Lib.hid (both_n (T := q.T) (hang_c HN.out (fun k => by omega)))
        clear hm
        rw [hs]
        clear hs
        go_wp2_with fail
        refine (rput_is q a b _ rfl _ HT.out.1 HT.out.2).mono ?_
        rintro e w1 ⟨rfl, hb⟩
        have HX := Lib.hid (HB.out.trans (hb.mono (by simp)))
        clear hb
        go_wp2
        go_ret2
        exact ⟨by rw [HC.out]; rfl, HX.out⟩
    · have hm1 : ((a - 44032) % 28 == 0) = false := by simpa using hm
      have HC := Lib.hid (both_n (T := q.T) (hang_c HN.out (fun k => hm k.2.1)))
      clear hm
      rw [hs]
      clear hs
      go_wp2_with fail
      refine (rput_is q a b _ rfl _ HT.out.1 HT.out.2).mono ?_
      rintro e w1 ⟨rfl, hb⟩
      have HX := Lib.hid (HB.out.trans (hb.mono (by simp)))
      clear hb
      go_wp2
      go_ret2
      exact ⟨by rw [HC.out]; rfl, HX.out⟩
  · have HC := Lib.hid (both_n (T := q.T) (hang_c HN.out (fun k => hs k.1)))
    rw [Bool.eq_false_iff.2 hs]
    clear hs
    go_wp2_with fail
    refine (rput_is q a b _ rfl _ HT.out.1 HT.out.2).mono ?_
    rintro e w1 ⟨rfl, hb⟩
    have HX := Lib.hid (HB.out.trans (hb.mono (by simp)))
    clear hb
    go_wp2
    go_ret2
    exact ⟨by rw [HC.out]; rfl, HX.out⟩
set_option maxHeartbeats 4000000 in
theorem rboth_n3 (q : TQ) (a b : Int) (h1 : 4352 ≤ a) (h2 : a ≤ 4370) (hp : ¬ 4449 ≤ b) (w : World) (h : TabAt w q) (hf : Fit q.T) : Calls Tryz.prog 34 #[q.v, .int .i32 a, .int .i32 b] w fun e w' => BothOut q a b e ∧ Below w.heap.size w w' := by
  have HN : Hid (¬ (4352 ≤ a ∧ a < 4371 ∧ 4449 ≤ b ∧ b < 4470)) := Lib.hid (by omega)
  have HB := Lib.hid (bnew w (Obj.cells q.cs 28))
  have HT := Lib.hid (And.intro (h.below (bnew w (Obj.cells q.cs 28))) hf)
  clear h hf
  unfold BothOut TQ.v
  go_enter Tryz.func34, Tryz.ntmps34
  go_wp2_with fail
  refine (rsyl_any a _).mono ?_
  rintro e w' ⟨rfl, rfl⟩
  by_cases hs : syl a = true
  · exact absurd hs (by simp only [syl, Bool.and_eq_true, decide_eq_true_eq]; omega)
  · have HC := Lib.hid (both_n (T := q.T) (hang_c HN.out (fun k => hs k.1)))
    rw [Bool.eq_false_iff.2 hs]
    clear hs
    go_wp2_with fail
    refine (rput_is q a b _ rfl _ HT.out.1 HT.out.2).mono ?_
    rintro e w1 ⟨rfl, hb⟩
    have HX := Lib.hid (HB.out.trans (hb.mono (by simp)))
    clear hb
    go_wp2
    go_ret2
    exact ⟨by rw [HC.out]; rfl, HX.out⟩
set_option maxHeartbeats 4000000 in
theorem rboth_n4 (q : TQ) (a b : Int) (h1 : 4352 ≤ a) (h2 : a ≤ 4370) (h3 : 4449 ≤ b) (hp : ¬ b ≤ 4469) (w : World) (h : TabAt w q) (hf : Fit q.T) : Calls Tryz.prog 34 #[q.v, .int .i32 a, .int .i32 b] w fun e w' => BothOut q a b e ∧ Below w.heap.size w w' := by
  have HN : Hid (¬ (4352 ≤ a ∧ a < 4371 ∧ 4449 ≤ b ∧ b < 4470)) := Lib.hid (by omega)
  have HB := Lib.hid (bnew w (Obj.cells q.cs 28))
  have HT := Lib.hid (And.intro (h.below (bnew w (Obj.cells q.cs 28))) hf)
  clear h hf
  unfold BothOut TQ.v
  go_enter Tryz.func34, Tryz.ntmps34
  go_wp2_with fail
  refine (rsyl_any a _).mono ?_
  rintro e w' ⟨rfl, rfl⟩
  by_cases hs : syl a = true
  · exact absurd hs (by simp only [syl, Bool.and_eq_true, decide_eq_true_eq]; omega)
  · have HC := Lib.hid (both_n (T := q.T) (hang_c HN.out (fun k => hs k.1)))
    rw [Bool.eq_false_iff.2 hs]
    clear hs
    go_wp2_with fail
    refine (rput_is q a b _ rfl _ HT.out.1 HT.out.2).mono ?_
    rintro e w1 ⟨rfl, hb⟩
    have HX := Lib.hid (HB.out.trans (hb.mono (by simp)))
    clear hb
    go_wp2
    go_ret2
    exact ⟨by rw [HC.out]; rfl, HX.out⟩

theorem rboth_is (q : TQ) (a b : Int) (w : World) (h : TabAt w q) (hf : Fit q.T) : Calls Tryz.prog 34 #[q.v, .int .i32 a, .int .i32 b] w fun e w' => BothOut q a b e ∧ Below w.heap.size w w' := by
  by_cases h1 : 4352 ≤ a
  · by_cases h2 : a ≤ 4370
    · by_cases h3 : 4449 ≤ b
      · by_cases h4 : b ≤ 4469
        · exact rboth_a q a b h1 h2 h3 h4 w
        · exact rboth_n4 q a b h1 h2 h3 h4 w h hf
      · exact rboth_n3 q a b h1 h2 h3 w h hf
    · exact rboth_n2 q a b h1 h2 w h hf
  · exact rboth_n1 q a b h1 w h hf
end Go.Proofs.YtbclodbneonipaaGreat
namespace Go.Proofs.YtbclodbneonipaaGreat
open Go.RowKit N
theorem rep_pos {x : Int} (h : U.rep x = x) : 0 ≤ x := by
  unfold U.rep at h
  split at h
  · rename_i hm
    unfold U.May at hm
    omega
  · omega
theorem mayB_pos {l : List Int} (h : mayB l = true) : ∀ x ∈ l, 0 ≤ x := fun x hx => by
  have h1 : l.map U.rep = l := of_decide_eq_true h
  obtain ⟨i, hi, rfl⟩ := List.getElem_of_mem hx
  have h2 : (l.map U.rep)[i]'(by simpa using hi) = l[i] := by simp only [h1]
  rw [List.getElem_map] at h2
  exact rep_pos h2
theorem chk_falls {T : Tab} (h : chk T = 0) : Falls T.pairs := by
  unfold chk at h
  split at h
  · exact absurd h (by decide)
  · split at h
    · rename_i hall
      simp only [allB, bothB, Bool.and_eq_true] at hall
      obtain ⟨_, _, ⟨hp, _⟩, _, _, _, hm⟩ := hall
      intro p hpm
      have h1 := List.all_eq_true.1 hp p hpm
      simp only [paB, Bool.and_eq_true, decide_eq_true_eq] at h1
      have hin : ∀ x ∈ paR p, x ∈ runesT T := fun x hx => by
        unfold runesT
        simp only [List.mem_append, List.mem_flatMap]
        exact .inl (.inl (.inr ⟨p, hpm, hx⟩))
      have ha := mayB_pos hm p.a (hin _ (by simp [paR]))
      have hb := mayB_pos hm p.b (hin _ (by simp [paR]))
      exact ⟨ha, h1.1, hb, h1.2.1⟩
    · exact absurd h (by decide)
/-- what Apart answers -/
def apR (T : Tab) (l : List Int) : List Int × Int := if chk T ≠ 0 then ([], chk T) else if (apl T.pairs l).length ≤ 4096 then (apl T.pairs l, 0) else ([], 3)
theorem apl_take (L : List Pa) {l : List Int} {k : Nat} (h : k < l.length) : apl L (l.take (k + 1)) = apl L (l.take k) ++ apt L l[k] := by
  rw [take_snoc l k h, apl_app]
  congr 1
  unfold apl
  simp
theorem apl_le (L : List Pa) (l : List Int) (k : Nat) : (apl L (l.take k)).length ≤ (apl L l).length := by
  conv => rhs; rw [← List.take_append_drop k l, apl_app, List.length_append]
  omega
set_option maxRecDepth 20000 in
set_option maxHeartbeats 1000000 in
theorem apart_is (q : TQ) (v : Value) (l : List Int) (R : List Int) (y : Int) (hR : apR q.T l = (R, y)) (w : World) (hv : RunesAt w v l) (hw : Wf32 l) (hl : l.length ≤ 35184372088320) (hT : TabAt w q) (hg : Good q.T) :
    Calls Tryz.prog 8 #[q.v, v] w fun e w' => ∃ v', e = .returned (.tuple #[v', .int .i64 y]) ∧ Own w' w.heap.size v' R ∧ Below w.heap.size w w' := by
  obtain ⟨p, cap, rfl, hc⟩ := hv
  have HC := Lib.hid hc
  have HT := Lib.hid (And.intro hT hg)
  have HW := Lib.hid hw
  obtain ⟨c, hcc⟩ : ∃ c, chk q.T = c := ⟨_, rfl⟩
  have HCC := Lib.hid hcc
  have HG0 := Lib.hid (Has.new w (.cells q.cs 28))
  have HB0 := Lib.hid (bnew w (.cells q.cs 28))
  have hmm := @run_makeMap Tryz.prog
  by_cases hz : c = 0
  · have hR2 : (if (apl q.T.pairs l).length ≤ 4096 then (apl q.T.pairs l, (0 : Int)) else ([], 3)) = (R, y) := by
      rw [← hR]
      unfold apR
      have h0 : ¬ (chk q.T ≠ 0) := by rw [hcc, hz]; simp
      rw [if_neg h0]
    have HR := Lib.hid hR2
    have HF := Lib.hid (chk_falls (by rw [hcc, hz]))
    have hzb : (c != 0) = false := by simp [hz]
    subst hz
    clear hc hT hg hw hcc hR hR2
    unfold TQ.v
    go_enter Tryz.func8, Tryz.ntmps8
    go_wp2_with fail
    refine (check_is q 0 HCC.out _ (HT.out.1.below HB0.out) HT.out.2).mono ?_
    rintro e w1 ⟨rfl, hb1⟩
    have HG1 := Lib.hid (HG0.out.to hb1)
    have HB1 := Lib.hid (bel2 HB0.out hb1)
    have m0 : w1.cell? ⟨w.heap.size, 0, none⟩ = some (.slice q.p0 q.T.spans.length q.c0) := HG1.out.cell 0 rfl
    have m1 : w1.cell? ⟨w.heap.size, 1, none⟩ = some (.slice q.p1 q.T.classes.length q.c1) := HG1.out.cell 1 rfl
    have m2 : w1.cell? ⟨w.heap.size, 2, none⟩ = some (.slice q.p2 q.T.pairs.length q.c2) := HG1.out.cell 2 rfl
    have m3 : w1.cell? ⟨w.heap.size, 3, none⟩ = some (.slice q.p3 q.T.ways.length q.c3) := HG1.out.cell 3 rfl
    have m4 : w1.cell? ⟨w.heap.size, 4, none⟩ = some (.slice q.p4 q.T.joins.length q.c4) := HG1.out.cell 4 rfl
    clear hb1
    go_wp2
    clear m0 m1 m2 m3 m4 hmm
    have HA0 : Hid (AS w q (w1.heap.size + 1) w1.heap.size ((w1.alloc (.map #[] 0)).alloc (.cells (AC q (.slice none 0 0) (.map (some w1.heap.size))) 45)) (apl q.T.pairs (l.take 0))) := Lib.hid (by
      refine ⟨.slice none 0 0, .map [], ?_, World.ownsRow_nil _ _ _ _, own_cap ((World.ownsMap_made w1 _ _ _).alloc _), by simpa [apl] using known_none q.T.pairs, (HB1.out.alloc HB1.out.size _).alloc (by rw [World.size_alloc]; have := HB1.out.size; omega) _, by have := HB1.out.size; omega, HB1.out.size, by simp [apl]⟩
      have := Has.new (w1.alloc (.map #[] 0)) (.cells (AC q (.slice none 0 0) (.map (some w1.heap.size))) 45)
      rw [World.size_alloc] at this
      exact this)
    obtain ⟨m, hm⟩ : ∃ m, m = w1.heap.size := ⟨_, rfl⟩
    obtain ⟨g, hgd⟩ : ∃ g, g = w1.heap.size + 1 := ⟨_, rfl⟩
    rw [← hgd, ← hm] at HA0
    simp only [← hgd]
    simp only [← hm]
    clear hgd hm HG1 HB1
    go_loopw [9, 20] (fun _ kv wr => ∃ k : Nat, kv = .int .i64 k ∧ k ≤ l.length ∧ Hid (AS w q g m wr (apl q.T.pairs (l.take k)))) (fun _ k _ => l.length - (intOf k).toNat)
    case atStart => exact ⟨0, rfl, Nat.zero_le _, HA0⟩
    case round =>
      obtain ⟨k, rfl, hk, HA⟩ := hrel
      clear HA0
      by_cases hlt : k < l.length
      · obtain ⟨r, hr⟩ : ∃ r, l[k]? = some r := ⟨_, List.getElem?_eq_getElem hlt⟩
        have HRR : Hid (l[k] = r) := Lib.hid (by rw [List.getElem?_eq_getElem hlt] at hr; exact Option.some.inj hr)
        obtain ⟨g2, o, hp, hg2, hx⟩ := HC.out k r hr
        have hBx : Below w.heap.size w wr := by obtain ⟨_, _, _, _, _, _, h5, _⟩ := HA.out; exact h5
        have c0 := (hBx.cell (p := ⟨g2, o + k, none⟩) hg2).trans hx
        have hrw : (Lit.int .i32 r).wf = true := HW.out r (List.mem_of_getElem? hr)
        have HS := Lib.hid (apl_take q.T.pairs hlt)
        have HRW := Lib.hid hrw
        clear hr hx hBx hrw
        go_wp2_with fail
        refine (take_is g m q w HT.out.1 HT.out.2.f HF.out HT.out.2.p (r.toNat + 1) r (by omega) HRW.out wr _ HA.out).mono ?_
        rintro e w2 ⟨b, rfl, hA⟩
        have HA2 := Lib.hid hA
        clear hA c0
        cases b with
        | false =>
          have HE : Hid (R = [] ∧ y = 3 ∧ Below w.heap.size w w2) := Lib.hid (by
            rcases HA2.out with ⟨hno, _⟩ | ⟨_, h2, h3⟩
            · cases hno
            · have h4 := apl_le q.T.pairs l (k + 1)
              rw [HS.out, HRR.out, List.length_append] at h4
              have h5 := HR.out
              rw [if_neg (by omega)] at h5
              injection h5 with h5 h6
              exact ⟨h5.symm, h6.symm, h3⟩)
          go_wp2
          go_ret2
          refine ⟨.slice none 0 0, by rw [HE.out.2.1]; rfl, ?_, HE.out.2.2⟩
          rw [HE.out.1]
          exact World.ownsRow_nil _ _ _ _
        | true =>
          have HE : Hid (AS w q g m w2 (apl q.T.pairs (l.take (k + 1)))) := Lib.hid (by
            rcases HA2.out with ⟨_, h2, _⟩ | ⟨hno, _⟩
            · rw [HS.out, HRR.out]; exact h2
            · cases hno)
          go_wp2
          go_roundw
          case rel =>
            rw [hp]
            repeat apply Exists.intro
            refine And.symm ⟨rfl, ?_⟩
            exact ⟨k + 1, by go_num, by omega, HE⟩
          case measure => simp [intOf]; omega
      · obtain rfl : k = l.length := by omega
        have HE : Hid (AS w q g m wr (apl q.T.pairs l)) := Lib.hid (by have := HA.out; rw [List.take_length] at this; exact this)
        obtain ⟨outv, D, h1, h2, h3, h4, h5, h6, h7, h8⟩ := HE.out
        obtain ⟨po, co, rfl, _⟩ := h2.form
        have n5 : wr.cell? ⟨g, 5, none⟩ = some (.slice po (apl q.T.pairs l).length co) := h1.cell 5 rfl
        have HX : Hid (R = apl q.T.pairs l ∧ y = 0) := Lib.hid (by
          have h9 := HR.out
          rw [if_pos h8] at h9
          injection h9 with h9 h10
          exact ⟨h9.symm, h10.symm⟩)
        have HO := Lib.hid (And.intro h2 h5)
        clear h1 h2 h3 h4 h5 h6 h7 h8
        go_wp2
        go_ret2
        refine ⟨.slice po (apl q.T.pairs l).length co, by rw [HX.out.2]; rfl, ?_, HO.out.2⟩
        rw [HX.out.1]
        exact HO.out.1
  · have hR2 : R = [] ∧ y = c := by
      unfold apR at hR
      have h0 : chk q.T ≠ 0 := by rw [hcc]; exact hz
      rw [if_pos h0, hcc] at hR
      injection hR with h1 h2
      exact ⟨h1.symm, h2.symm⟩
    have HR := Lib.hid hR2
    have hzb : (c != 0) = true := by simp [hz]
    clear hc hT hg hw hcc hR hR2 hmm hz
    unfold TQ.v
    go_enter Tryz.func8, Tryz.ntmps8
    go_wp2_with fail
    refine (check_is q c HCC.out _ (HT.out.1.below HB0.out) HT.out.2).mono ?_
    rintro e w1 ⟨rfl, hb1⟩
    have HB1 := Lib.hid (bel2 HB0.out hb1)
    clear hb1
    go_wp2
    go_ret2
    refine ⟨.slice none 0 0, by rw [HR.out.2]; rfl, ?_, HB1.out⟩
    rw [HR.out.1]
    exact World.ownsRow_nil _ _ _ _
end Go.Proofs.YtbclodbneonipaaGreat
