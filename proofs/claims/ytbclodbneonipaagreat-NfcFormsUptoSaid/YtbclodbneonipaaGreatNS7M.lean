import Derived.Test.YtbclodbneonipaaGreatNS1M
import Derived.Test.YtbclodbneonipaaGreatNS3M
import Derived.Test.YtbclodbneonipaaGreatNS4M
import Derived.Test.YtbclodbneonipaaGreatNS5M
import Derived.Test.YtbclodbneonipaaGreatNS6M
import Derived.Test.YtbclodbneonipaaGreatTGM
import Derived.Test.YtbclodbneonipaaGreatTEM
/-
  The document's Check (tables).
-/
namespace Go.Proofs.YtbclodbneonipaaGreat
open Go.RowKit N
theorem longT_iff {T : Tab} : longT T = true ↔ (1024 < T.spans.length ∨ 1024 < T.classes.length ∨ 1024 < T.pairs.length ∨ 1024 < T.ways.length ∨ 1024 < T.joins.length) := by
  unfold longT
  simp only [Bool.or_eq_true, decide_eq_true_eq]
set_option maxHeartbeats 16000000 in
set_option maxRecDepth 100000 in
/-- the document's Check -/
theorem rcheck_is (q : TQ) (c : Int) (hc : chkD q.T = c) (w : World) (hT : TabAt w q) (hf : Fit q.T) (hcap : q.T.pairs.length ≤ q.c2) : Calls Tryz.prog 23 #[q.v] w fun e w' => e = .returned (.int .i64 c) ∧ Below w.heap.size w w' := by
  obtain ⟨X, hX⟩ : ∃ X, w.alloc (.cells q.cs 28) = X := ⟨_, rfl⟩
  have HBX := Lib.hid (show Below w.heap.size w X from hX ▸ bnew w _)
  have HX := Lib.hid (show Has X w.heap.size (.cells q.cs 28) from hX ▸ Has.new w _)
  have HLG := Lib.hid (longT_iff (T := q.T))
  have HTX := Lib.hid (hT.below HBX.out)
  obtain ⟨b0, hb0⟩ : ∃ b, spansD q.T.spans = b := ⟨_, rfl⟩
  have HS0 := Lib.hid (fun (W : World) (h : Below X.heap.size X W) => show Calls Tryz.prog 40 #[q.v0] W fun e w' => e = .returned (.bool b0) ∧ Below W.heap.size W w' from
    have HT2 := HTX.out.below h
    rspans_is q.v0 q.T.spans b0 hb0 W HT2.s hf.s (fun x hx => HT2.m x hx))
  obtain ⟨b1, hb1⟩ : ∃ b, classesD q.T.classes = b := ⟨_, rfl⟩
  have HS1 := Lib.hid (fun (W : World) (h : Below X.heap.size X W) => show Calls Tryz.prog 41 #[q.v1] W fun e w' => e = .returned (.bool b1) ∧ Below W.heap.size W w' from
    have HT2 := HTX.out.below h
    rclasses_is q.v1 q.T.classes b1 hb1 W HT2.c hf.c)
  obtain ⟨b2, hb2⟩ : ∃ b, pairsD q.T.pairs = b := ⟨_, rfl⟩
  have HS2 := Lib.hid (fun (W : World) (h : Below X.heap.size X W) => show Calls Tryz.prog 42 #[q.v2] W fun e w' => e = .returned (.bool b2) ∧ Below W.heap.size W w' from
    have HT2 := HTX.out.below h
    rpairs_is q.v2 q.T.pairs b2 hb2 W HT2.p hf.p (fun p c e => by simp only [TQ.v2, Value.slice.injEq] at e; rw [← e.2.2]; exact hcap))
  obtain ⟨b3, hb3⟩ : ∃ b, waysD q.T.ways = b := ⟨_, rfl⟩
  have HS3 := Lib.hid (fun (W : World) (h : Below X.heap.size X W) => show Calls Tryz.prog 43 #[q.v3] W fun e w' => e = .returned (.bool b3) ∧ Below W.heap.size W w' from
    have HT2 := HTX.out.below h
    rways_is q.v3 q.T.ways b3 hb3 W HT2.y hf.y)
  obtain ⟨b4, hb4⟩ : ∃ b, joinsD q.T.joins = b := ⟨_, rfl⟩
  have HS4 := Lib.hid (fun (W : World) (h : Below X.heap.size X W) => show Calls Tryz.prog 44 #[q.v4] W fun e w' => e = .returned (.bool b4) ∧ Below W.heap.size W w' from
    have HT2 := HTX.out.below h
    rjoins_is q.v4 q.T.joins b4 hb4 W HT2.j hf.j)
  have HC := Lib.hid (show c = if longT q.T = true then 3 else if (b0 && (b1 && (b2 && (b3 && b4)))) = true then 0 else 2 from by rw [← hb0, ← hb1, ← hb2, ← hb3, ← hb4, ← hc]; rfl)
  have z0 : X.cell? ⟨w.heap.size, 0, none⟩ = some q.v0 := HX.out.cell 0 rfl
  have z1 : X.cell? ⟨w.heap.size, 1, none⟩ = some q.v1 := HX.out.cell 1 rfl
  have z2 : X.cell? ⟨w.heap.size, 2, none⟩ = some q.v2 := HX.out.cell 2 rfl
  have z3 : X.cell? ⟨w.heap.size, 3, none⟩ = some q.v3 := HX.out.cell 3 rfl
  have z4 : X.cell? ⟨w.heap.size, 4, none⟩ = some q.v4 := HX.out.cell 4 rfl
  unfold TQ.v0 at z0 HS0
  unfold TQ.v1 at z1 HS1
  unfold TQ.v2 at z2 HS2
  unfold TQ.v3 at z3 HS3
  unfold TQ.v4 at z4 HS4
  unfold TQ.v TQ.cs at *
  obtain ⟨n0, hn0⟩ : ∃ n, q.T.spans.length = n := ⟨_, rfl⟩
  obtain ⟨n1, hn1⟩ : ∃ n, q.T.classes.length = n := ⟨_, rfl⟩
  obtain ⟨n2, hn2⟩ : ∃ n, q.T.pairs.length = n := ⟨_, rfl⟩
  obtain ⟨n3, hn3⟩ : ∃ n, q.T.ways.length = n := ⟨_, rfl⟩
  obtain ⟨n4, hn4⟩ : ∃ n, q.T.joins.length = n := ⟨_, rfl⟩
  rw [hn0] at z0 HS0
  rw [hn1] at z1 HS1
  rw [hn2] at z2 HS2
  rw [hn3] at z3 HS3
  rw [hn4] at z4 HS4
  rw [hn0, hn1, hn2, hn3, hn4] at hX HX HLG ⊢
  clear hT hc hf hcap hb0 hn0 hb1 hn1 hb2 hn2 hb3 hn3 hb4 hn4
  go_enter Tryz.func23, Tryz.ntmps23
  go_upto_region 1 with fail
  go_cut [30] from 3 to 30 (fun sb wc => ∃ t : Bool, sb = .bool t ∧ Hid (TB t (longT q.T = true)) ∧ wc = X)
  case first =>
    by_cases c0 : (1024 : Int) < (n0 : Int)
    · have d0 : decide ((1024 : Int) < (n0 : Int)) = true := decide_eq_true c0
      have HF := Lib.hid (TB.t (A := longT q.T = true) (HLG.out.2 (by omega)))
      clear hX
      go_wp2_with fail
      go_meet
      case rel => exact ⟨true, rfl, HF, rfl⟩
    · have d0 : decide ((1024 : Int) < (n0 : Int)) = false := decide_eq_false c0
      by_cases c1 : (1024 : Int) < (n1 : Int)
      · have d1 : decide ((1024 : Int) < (n1 : Int)) = true := decide_eq_true c1
        have HF := Lib.hid (TB.t (A := longT q.T = true) (HLG.out.2 (by omega)))
        clear hX
        go_wp2_with fail
        go_meet
        case rel => exact ⟨true, rfl, HF, rfl⟩
      · have d1 : decide ((1024 : Int) < (n1 : Int)) = false := decide_eq_false c1
        by_cases c2 : (1024 : Int) < (n2 : Int)
        · have d2 : decide ((1024 : Int) < (n2 : Int)) = true := decide_eq_true c2
          have HF := Lib.hid (TB.t (A := longT q.T = true) (HLG.out.2 (by omega)))
          clear hX
          go_wp2_with fail
          go_meet
          case rel => exact ⟨true, rfl, HF, rfl⟩
        · have d2 : decide ((1024 : Int) < (n2 : Int)) = false := decide_eq_false c2
          by_cases c3 : (1024 : Int) < (n3 : Int)
          · have d3 : decide ((1024 : Int) < (n3 : Int)) = true := decide_eq_true c3
            have HF := Lib.hid (TB.t (A := longT q.T = true) (HLG.out.2 (by omega)))
            clear hX
            go_wp2_with fail
            go_meet
            case rel => exact ⟨true, rfl, HF, rfl⟩
          · have d3 : decide ((1024 : Int) < (n3 : Int)) = false := decide_eq_false c3
            by_cases c4 : (1024 : Int) < (n4 : Int)
            · have d4 : decide ((1024 : Int) < (n4 : Int)) = true := decide_eq_true c4
              have HF := Lib.hid (TB.t (A := longT q.T = true) (HLG.out.2 (by omega)))
              clear hX
              go_wp2_with fail
              go_meet
              case rel => exact ⟨true, rfl, HF, rfl⟩
            · have d4 : decide ((1024 : Int) < (n4 : Int)) = false := decide_eq_false c4
              have HF := Lib.hid (TB.f (A := longT q.T = true) (fun h => absurd (HLG.out.1 h) (by omega)))
              clear hX
              go_wp2_with fail
              go_meet
              case rel => exact ⟨false, rfl, HF, rfl⟩
  case rest =>
  obtain ⟨t, rfl, HF, rfl⟩ := hcut
  cases t with
  | true =>
    have HZ := Lib.hid (HC.out.trans (if_pos HF.out.yes))
    clear hX
    go_wp2_with fail
    go_ret
    exact ⟨by rw [HZ.out]; rfl, HBX.out⟩
  | false =>
  have HZ := Lib.hid (HC.out.trans (if_neg HF.out.no))
  have HQ0 := Lib.hid (Below.refl wc.heap.size wc)
  clear HC HF HLG hX
  cases b0 with
  | false =>
    have HV := Lib.hid (show c = 2 from by rw [HZ.out]; simp)
    go_wp2_with (first | (go_at_call 40; refine (HS0.out _ HQ0.out).mono ?_; rintro e w1 ⟨rfl, hbb⟩; have HQ1 := Lib.hid (HQ0.out.trans (hbb.mono HQ0.out.size)); have y1 := (HX.out.to HQ1.out).cell 1 rfl; clear hbb))
    go_ret
    exact ⟨by rw [HV.out]; rfl, HBX.out.trans (HQ1.out.mono HBX.out.size)⟩
  | true =>
    cases b1 with
    | false =>
      have HV := Lib.hid (show c = 2 from by rw [HZ.out]; simp)
      go_wp2_with (first | (go_at_call 40; refine (HS0.out _ HQ0.out).mono ?_; rintro e w1 ⟨rfl, hbb⟩; have HQ1 := Lib.hid (HQ0.out.trans (hbb.mono HQ0.out.size)); have y1 := (HX.out.to HQ1.out).cell 1 rfl; clear hbb) | (go_at_call 41; refine (HS1.out _ HQ1.out).mono ?_; rintro e w2 ⟨rfl, hbb⟩; have HQ2 := Lib.hid (HQ1.out.trans (hbb.mono HQ1.out.size)); have y2 := (HX.out.to HQ2.out).cell 2 rfl; clear hbb))
      go_ret
      exact ⟨by rw [HV.out]; rfl, HBX.out.trans (HQ2.out.mono HBX.out.size)⟩
    | true =>
      cases b2 with
      | false =>
        have HV := Lib.hid (show c = 2 from by rw [HZ.out]; simp)
        go_wp2_with (first | (go_at_call 40; refine (HS0.out _ HQ0.out).mono ?_; rintro e w1 ⟨rfl, hbb⟩; have HQ1 := Lib.hid (HQ0.out.trans (hbb.mono HQ0.out.size)); have y1 := (HX.out.to HQ1.out).cell 1 rfl; clear hbb) | (go_at_call 41; refine (HS1.out _ HQ1.out).mono ?_; rintro e w2 ⟨rfl, hbb⟩; have HQ2 := Lib.hid (HQ1.out.trans (hbb.mono HQ1.out.size)); have y2 := (HX.out.to HQ2.out).cell 2 rfl; clear hbb) | (go_at_call 42; refine (HS2.out _ HQ2.out).mono ?_; rintro e w3 ⟨rfl, hbb⟩; have HQ3 := Lib.hid (HQ2.out.trans (hbb.mono HQ2.out.size)); have y3 := (HX.out.to HQ3.out).cell 3 rfl; clear hbb))
        go_ret
        exact ⟨by rw [HV.out]; rfl, HBX.out.trans (HQ3.out.mono HBX.out.size)⟩
      | true =>
        cases b3 with
        | false =>
          have HV := Lib.hid (show c = 2 from by rw [HZ.out]; simp)
          go_wp2_with (first | (go_at_call 40; refine (HS0.out _ HQ0.out).mono ?_; rintro e w1 ⟨rfl, hbb⟩; have HQ1 := Lib.hid (HQ0.out.trans (hbb.mono HQ0.out.size)); have y1 := (HX.out.to HQ1.out).cell 1 rfl; clear hbb) | (go_at_call 41; refine (HS1.out _ HQ1.out).mono ?_; rintro e w2 ⟨rfl, hbb⟩; have HQ2 := Lib.hid (HQ1.out.trans (hbb.mono HQ1.out.size)); have y2 := (HX.out.to HQ2.out).cell 2 rfl; clear hbb) | (go_at_call 42; refine (HS2.out _ HQ2.out).mono ?_; rintro e w3 ⟨rfl, hbb⟩; have HQ3 := Lib.hid (HQ2.out.trans (hbb.mono HQ2.out.size)); have y3 := (HX.out.to HQ3.out).cell 3 rfl; clear hbb) | (go_at_call 43; refine (HS3.out _ HQ3.out).mono ?_; rintro e w4 ⟨rfl, hbb⟩; have HQ4 := Lib.hid (HQ3.out.trans (hbb.mono HQ3.out.size)); have y4 := (HX.out.to HQ4.out).cell 4 rfl; clear hbb))
          go_ret
          exact ⟨by rw [HV.out]; rfl, HBX.out.trans (HQ4.out.mono HBX.out.size)⟩
        | true =>
          cases b4 with
          | false =>
            have HV := Lib.hid (show c = 2 from by rw [HZ.out]; simp)
            go_wp2_with (first | (go_at_call 40; refine (HS0.out _ HQ0.out).mono ?_; rintro e w1 ⟨rfl, hbb⟩; have HQ1 := Lib.hid (HQ0.out.trans (hbb.mono HQ0.out.size)); have y1 := (HX.out.to HQ1.out).cell 1 rfl; clear hbb) | (go_at_call 41; refine (HS1.out _ HQ1.out).mono ?_; rintro e w2 ⟨rfl, hbb⟩; have HQ2 := Lib.hid (HQ1.out.trans (hbb.mono HQ1.out.size)); have y2 := (HX.out.to HQ2.out).cell 2 rfl; clear hbb) | (go_at_call 42; refine (HS2.out _ HQ2.out).mono ?_; rintro e w3 ⟨rfl, hbb⟩; have HQ3 := Lib.hid (HQ2.out.trans (hbb.mono HQ2.out.size)); have y3 := (HX.out.to HQ3.out).cell 3 rfl; clear hbb) | (go_at_call 43; refine (HS3.out _ HQ3.out).mono ?_; rintro e w4 ⟨rfl, hbb⟩; have HQ4 := Lib.hid (HQ3.out.trans (hbb.mono HQ3.out.size)); have y4 := (HX.out.to HQ4.out).cell 4 rfl; clear hbb) | (go_at_call 44; refine (HS4.out _ HQ4.out).mono ?_; rintro e w5 ⟨rfl, hbb⟩; have HQ5 := Lib.hid (HQ4.out.trans (hbb.mono HQ4.out.size)); clear hbb))
            go_ret
            exact ⟨by rw [HV.out]; rfl, HBX.out.trans (HQ5.out.mono HBX.out.size)⟩
          | true =>
            have HV := Lib.hid (show c = 0 from by rw [HZ.out]; simp)
            go_wp2_with (first | (go_at_call 40; refine (HS0.out _ HQ0.out).mono ?_; rintro e w1 ⟨rfl, hbb⟩; have HQ1 := Lib.hid (HQ0.out.trans (hbb.mono HQ0.out.size)); have y1 := (HX.out.to HQ1.out).cell 1 rfl; clear hbb) | (go_at_call 41; refine (HS1.out _ HQ1.out).mono ?_; rintro e w2 ⟨rfl, hbb⟩; have HQ2 := Lib.hid (HQ1.out.trans (hbb.mono HQ1.out.size)); have y2 := (HX.out.to HQ2.out).cell 2 rfl; clear hbb) | (go_at_call 42; refine (HS2.out _ HQ2.out).mono ?_; rintro e w3 ⟨rfl, hbb⟩; have HQ3 := Lib.hid (HQ2.out.trans (hbb.mono HQ2.out.size)); have y3 := (HX.out.to HQ3.out).cell 3 rfl; clear hbb) | (go_at_call 43; refine (HS3.out _ HQ3.out).mono ?_; rintro e w4 ⟨rfl, hbb⟩; have HQ4 := Lib.hid (HQ3.out.trans (hbb.mono HQ3.out.size)); have y4 := (HX.out.to HQ4.out).cell 4 rfl; clear hbb) | (go_at_call 44; refine (HS4.out _ HQ4.out).mono ?_; rintro e w5 ⟨rfl, hbb⟩; have HQ5 := Lib.hid (HQ4.out.trans (hbb.mono HQ4.out.size)); clear hbb))
            go_ret
            exact ⟨by rw [HV.out]; rfl, HBX.out.trans (HQ5.out.mono HBX.out.size)⟩
end Go.Proofs.YtbclodbneonipaaGreat
namespace Go.Proofs.YtbclodbneonipaaGreat
open Go.RowKit N
set_option maxHeartbeats 400000 in
theorem rsyl_any (r : Int) (w : World) : Calls Tryz.prog 45 #[.int .i32 r] w fun e w' => e = .returned (.bool (syl r)) ∧ w = w' := by
  have H : Hid (syl r = (decide (44032 ≤ r) && decide (r ≤ 55203))) := Lib.hid rfl
  by_cases h0 : 44032 ≤ r
  · by_cases h1 : r ≤ 55203
    · go_enter Tryz.func45, Tryz.ntmps45
      go_wp2
      go_ret
      exact ⟨ret_bool (by rw [H.out]; simp [h0, h1]), rfl⟩
    · go_enter Tryz.func45, Tryz.ntmps45
      go_wp2
      go_ret
      exact ⟨ret_bool (by rw [H.out]; simp [h1]), rfl⟩
  · go_enter Tryz.func45, Tryz.ntmps45
    go_wp2
    go_ret
    exact ⟨ret_bool (by rw [H.out]; simp; omega), rfl⟩
set_option maxHeartbeats 4000000 in
theorem rclass_is (q : TQ) (r c : Int) (hc : N.cls q.T r = c) (w : World) (h : TabAt w q) (hf : Fit q.T) : Calls Tryz.prog 32 #[q.v, .int .i32 r] w fun e w' => e = .returned (.int .u8 c) ∧ Below w.heap.size w w' := by
  have hl : q.T.classes.length ≤ maxLen := by have := hf.c; unfold maxLen; omega
  unfold maxLen at hl
  obtain ⟨p, cap, hpv, hn, hcc⟩ := h.c
  simp only [TQ.v1, Value.slice.injEq] at hpv
  obtain ⟨rfl, _, rfl⟩ := hpv
  have HC := Lib.hid hcc
  have HO : Hid ((match q.T.classes.find? (fun x => x.r == r) with | some x => x.c | none => 0) = c) := Lib.hid hc
  clear hcc hn h hf hc
  have hbW := bnew w (Obj.cells q.cs 28)
  have hG := Has.new w (Obj.cells q.cs 28)
  have HG := Lib.hid hG
  clear hG
  unfold TQ.v
  go_enter Tryz.func32, Tryz.ntmps32
  go_wp2
  go_loopw [10] (fun i wr => ∃ k : Nat, k ≤ q.T.classes.length ∧ i = .int .i64 k ∧ Hid ((q.T.classes.take k).find? (fun x => x.r == r) = none) ∧ Below w.heap.size w wr) (fun i _ => q.T.classes.length - (intOf i).toNat)
  case atStart => exact ⟨0, Nat.zero_le _, rfl, Lib.hid rfl, hbW⟩
  case round =>
    obtain ⟨k, hk, rfl, HN, hB⟩ := hrel
    clear hbW
    by_cases hlt : k < q.T.classes.length
    · obtain ⟨g, of, hp, hg, hx⟩ := HC.out k q.T.classes[k] (List.getElem?_eq_getElem hlt)
      have c0 := (hB.cell (p := ⟨g, of + k * 2, none⟩) hg).trans (hx 0 _ rfl)
      have c1 := (hB.cell (p := ⟨g, of + k * 2 + 1, none⟩) hg).trans (hx 1 _ rfl)
      obtain ⟨ek, hek⟩ : ∃ x, x = q.T.classes[k] := ⟨_, rfl⟩
      rw [← hek] at c0 c1
      have HK := Lib.hid hek
      have HB := Lib.hid hB
      clear hx hek hB
      by_cases h2 : ek.r = r
      · have e2 : (ek.r == r) = true := by simpa using h2
        have HE : Hid (c = ek.c) := Lib.hid (by
          have := find_here (f := fun x => x.r == r) hlt HN.out (by rw [← HK.out]; simp [h2])
          rw [← HO.out, this, ← HK.out])
        clear h2
        go_wp2
        go_ret
        exact ⟨by rw [HE.out]; rfl, HB.out.alloc HB.out.size _⟩
      · have e2 : (ek.r == r) = false := by simpa using h2
        have HS : Hid ((q.T.classes.take (k + 1)).find? (fun x => x.r == r) = none) := Lib.hid (find_none hlt HN.out (by rw [← HK.out]; simpa using h2))
        clear h2
        go_wp2
        go_roundw
        case rel => exact ⟨k + 1, by omega, by go_num, HS, HB.out.alloc HB.out.size _⟩
        case measure => simp [intOf]; omega
    · have HE : Hid (c = 0) := Lib.hid (by
        have := HN.out
        rw [List.take_of_length_le (by omega)] at this
        rw [← HO.out, this])
      go_wp2
      go_ret
      exact ⟨by rw [HE.out]; rfl, hB⟩
set_option maxHeartbeats 4000000 in
theorem rput_is (q : TQ) (a b : Int) (o : Option Int) (ho : ptL q.T.pairs a b = o) (w : World) (h : TabAt w q) (hf : Fit q.T) : Calls Tryz.prog 52 #[q.v, .int .i32 a, .int .i32 b] w fun e w' => e = .returned (.tuple #[.int .i32 (o.getD 0), .bool o.isSome]) ∧ Below w.heap.size w w' := by
  have hl : q.T.pairs.length ≤ maxLen := by have := hf.p; unfold maxLen; omega
  unfold maxLen at hl
  obtain ⟨p, cap, hpv, hn, hc⟩ := h.p
  simp only [TQ.v2, Value.slice.injEq] at hpv
  obtain ⟨rfl, _, rfl⟩ := hpv
  have HC := Lib.hid hc
  have HO : Hid ((q.T.pairs.find? (fun x => putB a b x && decide (b ≠ 0))).map (·.r) = o) := Lib.hid (by
    rw [← ho]
    unfold ptL
    by_cases hb : b = 0
    · rw [if_pos hb]
      have : q.T.pairs.find? (fun x => putB a b x && decide (b ≠ 0)) = none := by rw [List.find?_eq_none]; intro x _; simp [hb]
      rw [this]; rfl
    · rw [if_neg hb]
      have : (fun x => putB a b x && decide (b ≠ 0)) = putB a b := by funext x; simp [hb]
      rw [this]; rfl)
  clear hc hn h hf ho
  have hbW := bnew w (Obj.cells q.cs 28)
  unfold TQ.v
  go_enter Tryz.func52, Tryz.ntmps52
  go_wp2
  go_loopw [13] (fun i wr => ∃ k : Nat, k ≤ q.T.pairs.length ∧ i = .int .i64 k ∧ Hid ((q.T.pairs.take k).find? (fun x => putB a b x && decide (b ≠ 0)) = none) ∧ Below w.heap.size w wr) (fun i _ => q.T.pairs.length - (intOf i).toNat)
  case atStart => exact ⟨0, Nat.zero_le _, rfl, Lib.hid rfl, hbW⟩
  case round =>
    obtain ⟨k, hk, rfl, HN, hB⟩ := hrel
    clear hbW
    by_cases hlt : k < q.T.pairs.length
    · obtain ⟨g, of, hp, hg, hx⟩ := HC.out k q.T.pairs[k] (List.getElem?_eq_getElem hlt)
      have c0 := (hB.cell (p := ⟨g, of + k * 4, none⟩) hg).trans (hx 0 _ rfl)
      have c1 := (hB.cell (p := ⟨g, of + k * 4 + 1, none⟩) hg).trans (hx 1 _ rfl)
      have c2 := (hB.cell (p := ⟨g, of + k * 4 + 2, none⟩) hg).trans (hx 2 _ rfl)
      have c3 := (hB.cell (p := ⟨g, of + k * 4 + 3, none⟩) hg).trans (hx 3 _ rfl)
      obtain ⟨ek, hek⟩ : ∃ x, x = q.T.pairs[k] := ⟨_, rfl⟩
      rw [← hek] at c0 c1 c2 c3
      have HK := Lib.hid hek
      have HB := Lib.hid hB
      clear hx hek hB
      have step : (putB a b ek && decide (b ≠ 0)) = false → Hid ((q.T.pairs.take (k + 1)).find? (fun x => putB a b x && decide (b ≠ 0)) = none) := fun hf => Lib.hid (find_none hlt HN.out (by rw [← HK.out]; exact hf))
      have STEP := Lib.hid step
      clear step
      by_cases h1 : ek.one = true
      · have HS := STEP.out (by simp [putB, h1])
        go_wp2
        go_roundw
        case rel => exact ⟨k + 1, by omega, by go_num, HS, HB.out.alloc HB.out.size _⟩
        case measure => simp [intOf]; omega
      · have h1' : ek.one = false := by simpa using h1
        clear h1
        by_cases h2 : ek.a = a
        · have e2 : (ek.a == a) = true := by simpa using h2
          by_cases h3 : ek.b = b
          · have e3 : (ek.b == b) = true := by simpa using h3
            by_cases h4 : b = 0
            · have e4 : (b != 0) = false := by simp [h4]
              have HS := STEP.out (by simp [h4])
              clear h2 h3 h4
              go_wp2
              go_roundw
              case rel => exact ⟨k + 1, by omega, by go_num, HS, HB.out.alloc HB.out.size _⟩
              case measure => simp [intOf]; omega
            · have e4 : (b != 0) = true := by simp [h4]
              have HE : Hid (o = some ek.r) := Lib.hid (by
                have := find_here (f := fun x => putB a b x && decide (b ≠ 0)) hlt HN.out (by rw [← HK.out]; simp [putB, h1', h2, h3, h4])
                rw [← HO.out, this, ← HK.out]; rfl)
              clear h2 h3 h4
              go_wp2
              go_ret2
              exact ⟨by rw [HE.out]; rfl, HB.out.alloc HB.out.size _⟩
          · have e3 : (ek.b == b) = false := by simpa using h3
            have HS := STEP.out (by simp [putB, h1', h3])
            clear h2 h3
            go_wp2
            go_roundw
            case rel => exact ⟨k + 1, by omega, by go_num, HS, HB.out.alloc HB.out.size _⟩
            case measure => simp [intOf]; omega
        · have e2 : (ek.a == a) = false := by simpa using h2
          have HS := STEP.out (by simp [putB, h1', h2])
          clear h2
          go_wp2
          go_roundw
          case rel => exact ⟨k + 1, by omega, by go_num, HS, HB.out.alloc HB.out.size _⟩
          case measure => simp [intOf]; omega
    · have HE : Hid (o = none) := Lib.hid (by
        have := HN.out
        rw [List.take_of_length_le (by omega)] at this
        rw [← HO.out, this]; rfl)
      go_wp2
      go_ret2
      exact ⟨by rw [HE.out]; rfl, hB⟩
end Go.Proofs.YtbclodbneonipaaGreat
namespace Go.Proofs.YtbclodbneonipaaGreat
open Go.RowKit N
def paV (y : Pa) : Value := .agg #[.int .i32 y.r, .int .i32 y.a, .int .i32 y.b, .bool y.one]
def pa0 : Pa := { r := 0, a := 0, b := 0, one := false }
set_option maxHeartbeats 4000000 in
theorem rpair_is (q : TQ) (r : Int) (o : Option Pa) (ho : prL q.T.pairs r = o) (w : World) (h : TabAt w q) (hf : Fit q.T) : Calls Tryz.prog 46 #[q.v, .int .i32 r] w fun e w' => e = .returned (.tuple #[.agg #[.int .i32 (o.getD pa0).r, .int .i32 (o.getD pa0).a, .int .i32 (o.getD pa0).b, .bool (o.getD pa0).one], .bool o.isSome]) ∧ Below w.heap.size w w' := by
  have hl : q.T.pairs.length ≤ maxLen := by have := hf.p; unfold maxLen; omega
  unfold maxLen at hl
  obtain ⟨p, cap, hpv, hn, hc⟩ := h.p
  simp only [TQ.v2, Value.slice.injEq] at hpv
  obtain ⟨rfl, _, rfl⟩ := hpv
  have HC := Lib.hid hc
  have HO : Hid (q.T.pairs.find? (fun x => x.r == r) = o) := Lib.hid ho
  clear hc hn h hf ho
  have hH := Has.new (w.alloc (Obj.cells q.cs 28)) (Obj.cells #[Value.int IntKind.i32 0, Value.int IntKind.i32 0, Value.int IntKind.i32 0, Value.bool false] 52)
  rw [World.size_alloc] at hH
  have hbW := (bnew w (Obj.cells q.cs 28)).alloc (by simp) (Obj.cells #[Value.int IntKind.i32 0, Value.int IntKind.i32 0, Value.int IntKind.i32 0, Value.bool false] 52)
  unfold TQ.v
  go_enter Tryz.func46, Tryz.ntmps46
  go_wp2
  go_loopw [11] (fun i wr => ∃ k : Nat, k ≤ q.T.pairs.length ∧ i = .int .i64 k ∧ Hid ((q.T.pairs.take k).find? (fun x => x.r == r) = none) ∧ Below w.heap.size w wr ∧ Has wr (w.heap.size + 1) (Obj.cells #[Value.int IntKind.i32 0, Value.int IntKind.i32 0, Value.int IntKind.i32 0, Value.bool false] 52)) (fun i _ => q.T.pairs.length - (intOf i).toNat)
  case atStart => exact ⟨0, Nat.zero_le _, rfl, Lib.hid rfl, hbW, hH⟩
  case round =>
    obtain ⟨k, hk, rfl, HN, hB, h1⟩ := hrel
    clear hbW hH
    have hsz := h1.lt
    have d0 : wr.cell? ⟨w.heap.size + 1, 0, none⟩ = some (Value.int IntKind.i32 0) := h1.cell 0 rfl
    have f0 := h1.free 0
    have d1 : wr.cell? ⟨w.heap.size + 1, 1, none⟩ = some (Value.int IntKind.i32 0) := h1.cell 1 rfl
    have f1 := h1.free 1
    have d2 : wr.cell? ⟨w.heap.size + 1, 2, none⟩ = some (Value.int IntKind.i32 0) := h1.cell 2 rfl
    have f2 := h1.free 2
    have d3 : wr.cell? ⟨w.heap.size + 1, 3, none⟩ = some (Value.bool false) := h1.cell 3 rfl
    have f3 := h1.free 3
    by_cases hlt : k < q.T.pairs.length
    · obtain ⟨g, of, hp, hg, hx⟩ := HC.out k q.T.pairs[k] (List.getElem?_eq_getElem hlt)
      have c0 := (hB.cell (p := ⟨g, of + k * 4, none⟩) hg).trans (hx 0 _ rfl)
      have c1 := (hB.cell (p := ⟨g, of + k * 4 + 1, none⟩) hg).trans (hx 1 _ rfl)
      have c2 := (hB.cell (p := ⟨g, of + k * 4 + 2, none⟩) hg).trans (hx 2 _ rfl)
      have c3 := (hB.cell (p := ⟨g, of + k * 4 + 3, none⟩) hg).trans (hx 3 _ rfl)
      obtain ⟨ek, hek⟩ : ∃ x, x = q.T.pairs[k] := ⟨_, rfl⟩
      rw [← hek] at c0 c1 c2 c3
      have HK := Lib.hid hek
      have HB := Lib.hid hB
      have H1 := Lib.hid h1
      clear hx hek hB h1
      by_cases h2 : ek.r = r
      · have e2 : (ek.r == r) = true := by simpa using h2
        have HE : Hid (o = some ek) := Lib.hid (by
          have := find_here (f := fun x => x.r == r) hlt HN.out (by rw [← HK.out]; simp [h2])
          rw [← HO.out, this, ← HK.out])
        clear h2
        go_wp2
        refine bodyPost_ret (v := .tuple #[.agg #[.int .i32 ek.r, .int .i32 ek.a, .int .i32 ek.b, .bool ek.one], .bool true]) (by simp [results, Tryz.results46, go_sem, d0, d1, d2, d3, hsz]) rfl ⟨by rw [HE.out]; rfl, ?_⟩
        exact ((((HB.out.setCell (p := ⟨w.heap.size + 1, 0, none⟩) (by simp) _).setCell (p := ⟨w.heap.size + 1, 1, none⟩) (by simp) _).setCell (p := ⟨w.heap.size + 1, 2, none⟩) (by simp) _).setCell (p := ⟨w.heap.size + 1, 3, none⟩) (by simp) _).alloc (by simpa using HB.out.size) _
      · have e2 : (ek.r == r) = false := by simpa using h2
        have HS : Hid ((q.T.pairs.take (k + 1)).find? (fun x => x.r == r) = none) := Lib.hid (find_none hlt HN.out (by rw [← HK.out]; simpa using h2))
        clear h2
        go_wp2
        go_roundw
        case rel => exact ⟨k + 1, by omega, by go_num, HS, HB.out.alloc HB.out.size _, H1.out.alloc _⟩
        case measure => simp [intOf]; omega
    · have HE : Hid (o = none) := Lib.hid (by
        have := HN.out
        rw [List.take_of_length_le (by omega)] at this
        rw [← HO.out, this])
      go_wp2
      refine bodyPost_ret (v := .tuple #[.agg #[.int .i32 0, .int .i32 0, .int .i32 0, .bool false], .bool false]) (by simp [results, Tryz.results46, go_sem, d0, d1, d2, d3, hsz]) rfl ⟨by rw [HE.out]; rfl, ?_⟩
      exact (((hB.setCell (p := ⟨w.heap.size + 1, 0, none⟩) (by simp) _).setCell (p := ⟨w.heap.size + 1, 1, none⟩) (by simp) _).setCell (p := ⟨w.heap.size + 1, 2, none⟩) (by simp) _).setCell (p := ⟨w.heap.size + 1, 3, none⟩) (by simp) _
end Go.Proofs.YtbclodbneonipaaGreat
