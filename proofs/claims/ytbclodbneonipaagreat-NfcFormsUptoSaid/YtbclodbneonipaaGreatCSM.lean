import Derived.Test.YtbclodbneonipaaGreatCQM
namespace Go.Proofs.YtbclodbneonipaaGreat
open Go.RowKit N
def fnv (f : Nat) (g : Nat) : Value := .func (.func f) #[] #[.pointer (some ⟨g, 0, none⟩)]
set_option maxHeartbeats 1000000 in
theorem checks_any (q : TQ) (w : World) : Calls Tryz.prog 37 #[q.v] w fun e w' => ∃ gs, e = .returned (.slice (some ⟨gs, 0, none⟩) 7 7) ∧ Has w' w.heap.size (.cells q.cs 28) ∧ Has w' gs (.cells #[fnv 54 w.heap.size, fnv 57 w.heap.size, fnv 60 w.heap.size, fnv 64 w.heap.size, fnv 67 w.heap.size, fnv 70 w.heap.size, fnv 80 w.heap.size] 35) ∧ Below w.heap.size w w' := by
  have hG := Has.new w (.cells q.cs 28)
  have HG := Lib.hid hG
  clear hG
  unfold TQ.v
  go_enter Tryz.func37, Tryz.ntmps37
  go_wp2
  go_ret
  refine ⟨w.heap.size + 1, rfl, HG.out.alloc _, ?_, (bnew w _).alloc (by simp) _⟩
  have := Has.new (w.alloc (.cells q.cs 28)) (.cells #[fnv 54 w.heap.size, fnv 57 w.heap.size, fnv 60 w.heap.size, fnv 64 w.heap.size, fnv 67 w.heap.size, fnv 70 w.heap.size, fnv 80 w.heap.size] 35)
  rw [World.size_alloc] at this
  exact this
/-- what a closure of checks answers, in every world behind w0 -/
def Answers (w0 : World) (f g : Nat) (b : Bool) : Prop := ∀ w, Below w0.heap.size w0 w → Calls Tryz.prog f #[.pointer (some ⟨g, 0, none⟩)] w fun e w' => e = .returned (.bool b) ∧ Below w.heap.size w w'
def longT (T : Tab) : Bool := decide (1024 < T.spans.length) || (decide (1024 < T.classes.length) || (decide (1024 < T.pairs.length) || (decide (1024 < T.ways.length) || decide (1024 < T.joins.length))))
def mx2 (x y : Int) : Int := if y > x then y else x
theorem run_max5 (w : World) (a b c d e : Int) : (Builtin.max_ #[3, 3, 3, 3, 3] 3 #[.int .i64 a, .int .i64 b, .int .i64 c, .int .i64 d, .int .i64 e]).run Tryz.prog w = .ok (.int .i64 (mx2 (mx2 (mx2 (mx2 a b) c) d) e)) w := by
  simp [Builtin.max_, Builtin.max2, mx2]
theorem mx2_gt (x y k : Int) : k < mx2 x y ↔ k < x ∨ k < y := by unfold mx2; split <;> omega
theorem long_max (T : Tab) : (1024 < mx2 (mx2 (mx2 (mx2 (T.spans.length : Int) (T.classes.length : Int)) (T.pairs.length : Int)) (T.ways.length : Int)) (T.joins.length : Int)) ↔ longT T = true := by
  unfold longT
  simp only [mx2_gt, Bool.or_eq_true, decide_eq_true_eq]
  omega
set_option maxRecDepth 20000 in
set_option maxHeartbeats 4000000 in
theorem check_long (q : TQ) (hl : longT q.T = true) (w : World) (hf : Fit q.T) : Calls Tryz.prog 21 #[q.v] w fun e w' => e = .returned (.int .i64 3) ∧ Below w.heap.size w w' := by
  have hmx := fun w => run_max5 w (q.T.spans.length : Int) (q.T.classes.length : Int) (q.T.pairs.length : Int) (q.T.ways.length : Int) (q.T.joins.length : Int)
  have hM := (long_max q.T).2 hl
  obtain ⟨M, hMd⟩ : ∃ M, M = mx2 (mx2 (mx2 (mx2 (q.T.spans.length : Int) (q.T.classes.length : Int)) (q.T.pairs.length : Int)) (q.T.ways.length : Int)) (q.T.joins.length : Int) := ⟨_, rfl⟩
  rw [← hMd] at hM
  simp only [← hMd] at hmx
  clear hMd hf hl
  unfold TQ.v
  go_enter Tryz.func21, Tryz.ntmps21
  go_wp2
  go_ret
  exact ⟨rfl, bnew _ _⟩
/-- the seven answers, in their order -/
def allB (b1 b2 b3 b4 b5 b6 b7 : Bool) : Bool := b1 && (b2 && (b3 && (b4 && (b5 && (b6 && b7)))))
set_option maxRecDepth 20000 in
set_option maxHeartbeats 8000000 in
theorem check_short (q : TQ) (hl : longT q.T = false) (b1 b2 b3 b4 b5 b6 b7 : Bool) (w : World) (hf : Fit q.T) (hT : TabAt w q)
    (h1 : q.T.spans.all spB = b1) (h2 : q.T.classes.all clB = b2) (h4 : q.T.ways.all wyB = b4) (h5 : q.T.joins.all jnB = b5) (h6 : risesB q = b6)
    (h3 : ∀ g w', Has w' g (.cells q.cs 28) → TabAt w' q → Calls Tryz.prog 60 #[.pointer (some ⟨g, 0, none⟩)] w' fun e w'' => e = .returned (.bool b3) ∧ Below w'.heap.size w' w'')
    (h7 : b1 = true → ∀ g w', Has w' g (.cells q.cs 28) → TabAt w' q → Calls Tryz.prog 80 #[.pointer (some ⟨g, 0, none⟩)] w' fun e w'' => e = .returned (.bool b7) ∧ Below w'.heap.size w' w'') :
    Calls Tryz.prog 21 #[q.v] w fun e w' => e = .returned (.int .i64 (if allB b1 b2 b3 b4 b5 b6 b7 then 0 else 2)) ∧ Below w.heap.size w w' := by
  have hmx := fun w => run_max5 w (q.T.spans.length : Int) (q.T.classes.length : Int) (q.T.pairs.length : Int) (q.T.ways.length : Int) (q.T.joins.length : Int)
  have hM : ¬ 1024 < mx2 (mx2 (mx2 (mx2 (q.T.spans.length : Int) (q.T.classes.length : Int)) (q.T.pairs.length : Int)) (q.T.ways.length : Int)) (q.T.joins.length : Int) := fun h => by rw [(long_max q.T).1 h] at hl; cases hl
  obtain ⟨M, hMd⟩ : ∃ M, M = mx2 (mx2 (mx2 (mx2 (q.T.spans.length : Int) (q.T.classes.length : Int)) (q.T.pairs.length : Int)) (q.T.ways.length : Int)) (q.T.joins.length : Int) := ⟨_, rfl⟩
  rw [← hMd] at hM
  simp only [← hMd] at hmx
  have HH := Lib.hid (And.intro h1 (And.intro h2 (And.intro h4 (And.intro h5 h6))))
  have H3 := Lib.hid h3
  have H7 := Lib.hid h7
  have HT := Lib.hid (And.intro hT hf)
  clear hMd hf hl hT h1 h2 h3 h4 h5 h6 h7
  unfold TQ.v
  go_enter Tryz.func21, Tryz.ntmps21
  go_wp2_with fail
  refine (checks_any q _).mono ?_
  rintro e w0 ⟨gs, rfl, hC0, hS0, hb0⟩
  rw [World.size_alloc] at hC0 hS0 hb0
  obtain ⟨G, hG⟩ : ∃ G, G = w.heap.size + 1 := ⟨_, rfl⟩
  rw [← hG] at hC0 hS0 hb0
  have HC0 := Lib.hid hC0
  have HS0 := Lib.hid hS0
  have hb00 : Below w.heap.size w w0 := (bnew w _).trans (hb0.mono (by omega))
  have HB0 := Lib.hid hb00
  have HT0 := Lib.hid (And.intro (HT.out.1.below hb00) HT.out.2)
  have hs0 := hb00.size
  clear hC0 hS0 hb0 hb00 hG
  go_wp2
  refine wp_loop_rounds 8 ?_
  rw [rounds_succ]
  have z00 : w0.cell? ⟨gs, 0, none⟩ = some (.func (.func 54) #[] #[.pointer (some ⟨G, 0, none⟩)]) := HS0.out.cell 0 rfl
  have z01 : w0.cell? ⟨gs, 1, none⟩ = some (.func (.func 57) #[] #[.pointer (some ⟨G, 0, none⟩)]) := HS0.out.cell 1 rfl
  have z02 : w0.cell? ⟨gs, 2, none⟩ = some (.func (.func 60) #[] #[.pointer (some ⟨G, 0, none⟩)]) := HS0.out.cell 2 rfl
  have z03 : w0.cell? ⟨gs, 3, none⟩ = some (.func (.func 64) #[] #[.pointer (some ⟨G, 0, none⟩)]) := HS0.out.cell 3 rfl
  have z04 : w0.cell? ⟨gs, 4, none⟩ = some (.func (.func 67) #[] #[.pointer (some ⟨G, 0, none⟩)]) := HS0.out.cell 4 rfl
  have z05 : w0.cell? ⟨gs, 5, none⟩ = some (.func (.func 70) #[] #[.pointer (some ⟨G, 0, none⟩)]) := HS0.out.cell 5 rfl
  have z06 : w0.cell? ⟨gs, 6, none⟩ = some (.func (.func 80) #[] #[.pointer (some ⟨G, 0, none⟩)]) := HS0.out.cell 6 rfl
  go_wp2_with fail
  refine (check1 q G b1 HH.out.1 _ HC0.out HT0.out.1 HT0.out.2).mono ?_
  rintro e w1 ⟨rfl, hbx⟩
  have HC1 := Lib.hid (HC0.out.to hbx)
  have HS1 := Lib.hid (HS0.out.to hbx)
  have HB1 := Lib.hid (HB0.out.trans (hbx.mono hs0))
  have HT1 := Lib.hid (And.intro (HT0.out.1.below hbx) HT0.out.2)
  have hs1 := HB1.out.size
  clear hbx z00 z01 z02 z03 z04 z05 z06
  cases b1 with
  | false =>
    go_wp2
    go_ret
    exact ⟨by simp [allB], HB1.out⟩
  | true =>
    go_wp2
    rw [rounds_succ]
    have z10 : w1.cell? ⟨gs, 0, none⟩ = some (.func (.func 54) #[] #[.pointer (some ⟨G, 0, none⟩)]) := HS1.out.cell 0 rfl
    have z11 : w1.cell? ⟨gs, 1, none⟩ = some (.func (.func 57) #[] #[.pointer (some ⟨G, 0, none⟩)]) := HS1.out.cell 1 rfl
    have z12 : w1.cell? ⟨gs, 2, none⟩ = some (.func (.func 60) #[] #[.pointer (some ⟨G, 0, none⟩)]) := HS1.out.cell 2 rfl
    have z13 : w1.cell? ⟨gs, 3, none⟩ = some (.func (.func 64) #[] #[.pointer (some ⟨G, 0, none⟩)]) := HS1.out.cell 3 rfl
    have z14 : w1.cell? ⟨gs, 4, none⟩ = some (.func (.func 67) #[] #[.pointer (some ⟨G, 0, none⟩)]) := HS1.out.cell 4 rfl
    have z15 : w1.cell? ⟨gs, 5, none⟩ = some (.func (.func 70) #[] #[.pointer (some ⟨G, 0, none⟩)]) := HS1.out.cell 5 rfl
    have z16 : w1.cell? ⟨gs, 6, none⟩ = some (.func (.func 80) #[] #[.pointer (some ⟨G, 0, none⟩)]) := HS1.out.cell 6 rfl
    go_wp2_with fail
    refine (check2 q G b2 HH.out.2.1 _ HC1.out HT1.out.1 HT1.out.2).mono ?_
    rintro e w2 ⟨rfl, hbx⟩
    have HC2 := Lib.hid (HC1.out.to hbx)
    have HS2 := Lib.hid (HS1.out.to hbx)
    have HB2 := Lib.hid (HB1.out.trans (hbx.mono hs1))
    have HT2 := Lib.hid (And.intro (HT1.out.1.below hbx) HT1.out.2)
    have hs2 := HB2.out.size
    clear hbx z10 z11 z12 z13 z14 z15 z16
    cases b2 with
    | false =>
      go_wp2
      go_ret
      exact ⟨by simp [allB], HB2.out⟩
    | true =>
      go_wp2
      rw [rounds_succ]
      have z20 : w2.cell? ⟨gs, 0, none⟩ = some (.func (.func 54) #[] #[.pointer (some ⟨G, 0, none⟩)]) := HS2.out.cell 0 rfl
      have z21 : w2.cell? ⟨gs, 1, none⟩ = some (.func (.func 57) #[] #[.pointer (some ⟨G, 0, none⟩)]) := HS2.out.cell 1 rfl
      have z22 : w2.cell? ⟨gs, 2, none⟩ = some (.func (.func 60) #[] #[.pointer (some ⟨G, 0, none⟩)]) := HS2.out.cell 2 rfl
      have z23 : w2.cell? ⟨gs, 3, none⟩ = some (.func (.func 64) #[] #[.pointer (some ⟨G, 0, none⟩)]) := HS2.out.cell 3 rfl
      have z24 : w2.cell? ⟨gs, 4, none⟩ = some (.func (.func 67) #[] #[.pointer (some ⟨G, 0, none⟩)]) := HS2.out.cell 4 rfl
      have z25 : w2.cell? ⟨gs, 5, none⟩ = some (.func (.func 70) #[] #[.pointer (some ⟨G, 0, none⟩)]) := HS2.out.cell 5 rfl
      have z26 : w2.cell? ⟨gs, 6, none⟩ = some (.func (.func 80) #[] #[.pointer (some ⟨G, 0, none⟩)]) := HS2.out.cell 6 rfl
      go_wp2_with fail
      refine (H3.out G _ HC2.out HT2.out.1).mono ?_
      rintro e w3 ⟨rfl, hbx⟩
      have HC3 := Lib.hid (HC2.out.to hbx)
      have HS3 := Lib.hid (HS2.out.to hbx)
      have HB3 := Lib.hid (HB2.out.trans (hbx.mono hs2))
      have HT3 := Lib.hid (And.intro (HT2.out.1.below hbx) HT2.out.2)
      have hs3 := HB3.out.size
      clear hbx z20 z21 z22 z23 z24 z25 z26
      cases b3 with
      | false =>
        go_wp2
        go_ret
        exact ⟨by simp [allB], HB3.out⟩
      | true =>
        go_wp2
        rw [rounds_succ]
        have z30 : w3.cell? ⟨gs, 0, none⟩ = some (.func (.func 54) #[] #[.pointer (some ⟨G, 0, none⟩)]) := HS3.out.cell 0 rfl
        have z31 : w3.cell? ⟨gs, 1, none⟩ = some (.func (.func 57) #[] #[.pointer (some ⟨G, 0, none⟩)]) := HS3.out.cell 1 rfl
        have z32 : w3.cell? ⟨gs, 2, none⟩ = some (.func (.func 60) #[] #[.pointer (some ⟨G, 0, none⟩)]) := HS3.out.cell 2 rfl
        have z33 : w3.cell? ⟨gs, 3, none⟩ = some (.func (.func 64) #[] #[.pointer (some ⟨G, 0, none⟩)]) := HS3.out.cell 3 rfl
        have z34 : w3.cell? ⟨gs, 4, none⟩ = some (.func (.func 67) #[] #[.pointer (some ⟨G, 0, none⟩)]) := HS3.out.cell 4 rfl
        have z35 : w3.cell? ⟨gs, 5, none⟩ = some (.func (.func 70) #[] #[.pointer (some ⟨G, 0, none⟩)]) := HS3.out.cell 5 rfl
        have z36 : w3.cell? ⟨gs, 6, none⟩ = some (.func (.func 80) #[] #[.pointer (some ⟨G, 0, none⟩)]) := HS3.out.cell 6 rfl
        go_wp2_with fail
        refine (check4 q G b4 HH.out.2.2.1 _ HC3.out HT3.out.1 HT3.out.2).mono ?_
        rintro e w4 ⟨rfl, hbx⟩
        have HC4 := Lib.hid (HC3.out.to hbx)
        have HS4 := Lib.hid (HS3.out.to hbx)
        have HB4 := Lib.hid (HB3.out.trans (hbx.mono hs3))
        have HT4 := Lib.hid (And.intro (HT3.out.1.below hbx) HT3.out.2)
        have hs4 := HB4.out.size
        clear hbx z30 z31 z32 z33 z34 z35 z36
        cases b4 with
        | false =>
          go_wp2
          go_ret
          exact ⟨by simp [allB], HB4.out⟩
        | true =>
          go_wp2
          rw [rounds_succ]
          have z40 : w4.cell? ⟨gs, 0, none⟩ = some (.func (.func 54) #[] #[.pointer (some ⟨G, 0, none⟩)]) := HS4.out.cell 0 rfl
          have z41 : w4.cell? ⟨gs, 1, none⟩ = some (.func (.func 57) #[] #[.pointer (some ⟨G, 0, none⟩)]) := HS4.out.cell 1 rfl
          have z42 : w4.cell? ⟨gs, 2, none⟩ = some (.func (.func 60) #[] #[.pointer (some ⟨G, 0, none⟩)]) := HS4.out.cell 2 rfl
          have z43 : w4.cell? ⟨gs, 3, none⟩ = some (.func (.func 64) #[] #[.pointer (some ⟨G, 0, none⟩)]) := HS4.out.cell 3 rfl
          have z44 : w4.cell? ⟨gs, 4, none⟩ = some (.func (.func 67) #[] #[.pointer (some ⟨G, 0, none⟩)]) := HS4.out.cell 4 rfl
          have z45 : w4.cell? ⟨gs, 5, none⟩ = some (.func (.func 70) #[] #[.pointer (some ⟨G, 0, none⟩)]) := HS4.out.cell 5 rfl
          have z46 : w4.cell? ⟨gs, 6, none⟩ = some (.func (.func 80) #[] #[.pointer (some ⟨G, 0, none⟩)]) := HS4.out.cell 6 rfl
          go_wp2_with fail
          refine (check5 q G b5 HH.out.2.2.2.1 _ HC4.out HT4.out.1 HT4.out.2).mono ?_
          rintro e w5 ⟨rfl, hbx⟩
          have HC5 := Lib.hid (HC4.out.to hbx)
          have HS5 := Lib.hid (HS4.out.to hbx)
          have HB5 := Lib.hid (HB4.out.trans (hbx.mono hs4))
          have HT5 := Lib.hid (And.intro (HT4.out.1.below hbx) HT4.out.2)
          have hs5 := HB5.out.size
          clear hbx z40 z41 z42 z43 z44 z45 z46
          cases b5 with
          | false =>
            go_wp2
            go_ret
            exact ⟨by simp [allB], HB5.out⟩
          | true =>
            go_wp2
            rw [rounds_succ]
            have z50 : w5.cell? ⟨gs, 0, none⟩ = some (.func (.func 54) #[] #[.pointer (some ⟨G, 0, none⟩)]) := HS5.out.cell 0 rfl
            have z51 : w5.cell? ⟨gs, 1, none⟩ = some (.func (.func 57) #[] #[.pointer (some ⟨G, 0, none⟩)]) := HS5.out.cell 1 rfl
            have z52 : w5.cell? ⟨gs, 2, none⟩ = some (.func (.func 60) #[] #[.pointer (some ⟨G, 0, none⟩)]) := HS5.out.cell 2 rfl
            have z53 : w5.cell? ⟨gs, 3, none⟩ = some (.func (.func 64) #[] #[.pointer (some ⟨G, 0, none⟩)]) := HS5.out.cell 3 rfl
            have z54 : w5.cell? ⟨gs, 4, none⟩ = some (.func (.func 67) #[] #[.pointer (some ⟨G, 0, none⟩)]) := HS5.out.cell 4 rfl
            have z55 : w5.cell? ⟨gs, 5, none⟩ = some (.func (.func 70) #[] #[.pointer (some ⟨G, 0, none⟩)]) := HS5.out.cell 5 rfl
            have z56 : w5.cell? ⟨gs, 6, none⟩ = some (.func (.func 80) #[] #[.pointer (some ⟨G, 0, none⟩)]) := HS5.out.cell 6 rfl
            go_wp2_with fail
            refine (check6 q G b6 HH.out.2.2.2.2 _ HC5.out HT5.out.1 HT5.out.2).mono ?_
            rintro e w6 ⟨rfl, hbx⟩
            have HC6 := Lib.hid (HC5.out.to hbx)
            have HS6 := Lib.hid (HS5.out.to hbx)
            have HB6 := Lib.hid (HB5.out.trans (hbx.mono hs5))
            have HT6 := Lib.hid (And.intro (HT5.out.1.below hbx) HT5.out.2)
            have hs6 := HB6.out.size
            clear hbx z50 z51 z52 z53 z54 z55 z56
            cases b6 with
            | false =>
              go_wp2
              go_ret
              exact ⟨by simp [allB], HB6.out⟩
            | true =>
              go_wp2
              rw [rounds_succ]
              have z60 : w6.cell? ⟨gs, 0, none⟩ = some (.func (.func 54) #[] #[.pointer (some ⟨G, 0, none⟩)]) := HS6.out.cell 0 rfl
              have z61 : w6.cell? ⟨gs, 1, none⟩ = some (.func (.func 57) #[] #[.pointer (some ⟨G, 0, none⟩)]) := HS6.out.cell 1 rfl
              have z62 : w6.cell? ⟨gs, 2, none⟩ = some (.func (.func 60) #[] #[.pointer (some ⟨G, 0, none⟩)]) := HS6.out.cell 2 rfl
              have z63 : w6.cell? ⟨gs, 3, none⟩ = some (.func (.func 64) #[] #[.pointer (some ⟨G, 0, none⟩)]) := HS6.out.cell 3 rfl
              have z64 : w6.cell? ⟨gs, 4, none⟩ = some (.func (.func 67) #[] #[.pointer (some ⟨G, 0, none⟩)]) := HS6.out.cell 4 rfl
              have z65 : w6.cell? ⟨gs, 5, none⟩ = some (.func (.func 70) #[] #[.pointer (some ⟨G, 0, none⟩)]) := HS6.out.cell 5 rfl
              have z66 : w6.cell? ⟨gs, 6, none⟩ = some (.func (.func 80) #[] #[.pointer (some ⟨G, 0, none⟩)]) := HS6.out.cell 6 rfl
              go_wp2_with fail
              refine (H7.out (by first | rfl | trivial) G _ HC6.out HT6.out.1).mono ?_
              rintro e w7 ⟨rfl, hbx⟩
              have HC7 := Lib.hid (HC6.out.to hbx)
              have HS7 := Lib.hid (HS6.out.to hbx)
              have HB7 := Lib.hid (HB6.out.trans (hbx.mono hs6))
              have HT7 := Lib.hid (And.intro (HT6.out.1.below hbx) HT6.out.2)
              have hs7 := HB7.out.size
              clear hbx z60 z61 z62 z63 z64 z65 z66
              cases b7 with
              | false =>
                go_wp2
                go_ret
                exact ⟨by simp [allB], HB7.out⟩
              | true =>
                go_wp2
                rw [rounds_succ]
                go_wp2
                go_ret
                exact ⟨by simp [allB], HB7.out⟩
end Go.Proofs.YtbclodbneonipaaGreat
