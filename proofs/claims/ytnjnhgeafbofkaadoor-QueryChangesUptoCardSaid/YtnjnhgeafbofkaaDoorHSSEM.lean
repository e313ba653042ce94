import Derived.Test.YtnjnhgeafbofkaaDoorHSSAM
import Derived.Deep.Quiet
import Derived.Deep.QuietTactic
namespace Go.Proofs.YtnjnhgeafbofkaaDoor
open Go.RowKit
/-- a world behind w: what lay in w lies there still -/
structure Later (w : World) where
  v : World
  h : Below w.heap.size w v
instance laterInh (w : World) : Inhabited (Later w) := ⟨⟨w, Below.refl _ w⟩⟩
theorem wp_region_quiet_later {P : Program} {id : Nat} {Q : Exit → Act → World → Prop} {a : Act} {w : World} {l : List Oper} (hm : P.follows .mixedOrders = true) (hB : Region.lexB .any l.toArray = true)
    (h : wpQuiet P l.toArray (fun w' => ∃ p : Later w, w' = p.v) (fun a' => ∀ w', (∃ p : Later w, w' = p.v) → Q .normal a' w') l a) : (Code.region id l.toArray true).wp P Q a w :=
  wp_region_quiet (C := fun w' => ∃ p : Later w, w' = p.v) hm hB ⟨⟨w.drew, (Below.refl _ w).drew⟩, rfl⟩ (by simpa using h)
theorem Calls.later_of {P : Program} {f : FuncId} {args : Array Value} {w : World} {p : Later w} {v : Value}
    (h : Calls P f args p.v fun e w' => e = .returned v ∧ Below p.v.heap.size p.v w') : Calls P f args p.v fun e w'' => e = .returned v ∧ ∃ q : Later w, w'' = q.v :=
  h.mono fun _ _ ⟨he, hb⟩ => ⟨he, ⟨_, p.h.trans (hb.mono p.h.size)⟩, rfl⟩
theorem Later.c {w : World} (p : Later w) {g i : Nat} {v : Value} (h : w.cell? ⟨g, i, none⟩ = some v) (hg : g < w.heap.size) : p.v.cell? ⟨g, i, none⟩ = some v := (p.h.cell (p := ⟨g, i, none⟩) hg).trans h
abbrev CMP : Value := .func (.func 40) #[] #[]
abbrev agP {W0 : World} {g : Nat} (x : Pl W0 g) : Value := .agg #[.string x.n, .string x.v, .slice x.q x.m x.c]
set_option maxRecDepth 20000 in
set_option maxHeartbeats 8000000 in
theorem insertion {W0 : World} (g : Nat) (rest : List Value) (len cap : Nat) (pre L post : List (Pl W0 g)) (w : World) (B : Nat) (hB : B ≤ g) (hR : Row w g rest (pre ++ (L ++ post))) (hlen : (pre ++ (L ++ post)).length = len) (hmax : len ≤ 35184372088320) (a b : Nat) (ha : pre.length = a) (hb : a + L.length = b) :
    Calls Tryd.prog 80 #[.slice (some ⟨g, 0, none⟩) len cap, .int .i64 a, .int .i64 b, CMP] w fun e w' => e = .returned (.tuple #[]) ∧ Row w' g rest (pre ++ (SM.S ltP L ++ post)) ∧ Below B w w' := by
  have hlen' : pre.length + L.length + post.length = len := by rw [← hlen]; simp; omega
  have b1 : b ≤ len := by omega
  have b2 : a ≤ b := by omega
  have HI0 : Hid (L.length = b - a ∧ pre.length = a ∧ pre.length + L.length + post.length = len) := Lib.hid ⟨by omega, ha, hlen'⟩
  have HR0 := Lib.hid hR
  have hm0 : Tryd.prog.follows .mixedOrders = true := by kernel_rfl
  clear hlen hlen' hR ha hb
  unfold CMP
  go_enter Tryd.func80, Tryd.ntmps80
  go_wp2
  go_loopw [8] (fun iv wr => ∃ (i : Nat) (La Lb : List (Pl W0 g)), iv = .int .i64 i ∧ a < i ∧ i ≤ b + 1 ∧ Hid (L = La ++ Lb ∧ (La.length + a = i ∨ (L = [] ∧ La = []))) ∧ Row wr g rest (pre ++ (SM.S ltP La ++ (Lb ++ post))) ∧ Below B w wr) (fun i _ => b + 1 - (intOf i).toNat)
  case atStart =>
    obtain ⟨h1, h2, h3⟩ := HI0.out
    cases hL : L with
    | nil =>
      exact ⟨a + 1, [], [], by go_num, by omega, by omega, Lib.hid ⟨rfl, .inr ⟨rfl, rfl⟩⟩, by rw [SM.S_nil]; simpa [hL] using HR0.out, Below.refl _ _⟩
    | cons x l =>
      refine ⟨a + 1, [x], l, by go_num, by omega, by omega, Lib.hid ⟨rfl, .inl (by simp; omega)⟩, ?_, Below.refl _ _⟩
      have e : SM.S ltP [x] = [x] := by
        show SM.mrg ltP [] [x] = [x]
        rw [SM.mrg_nil_l]
      rw [e]
      have := HR0.out
      rw [hL] at this
      simpa using this
  case round =>
    obtain ⟨i, La, Lb, rfl, hai, hib, HI, hRow, hBel⟩ := hrel
    have HRow := Lib.hid hRow
    have HBel := Lib.hid hBel
    clear hRow hBel
    by_cases hlt : i < b
    · have hltz : (i : Int) < (b : Int) := by omega
      obtain ⟨x, Lb, rfl, HJ⟩ : ∃ x l, Lb = x :: l ∧ Hid (La.length + a = i ∧ L = La ++ x :: l ∧ (SM.S ltP La).length + a = i ∧ pre.length = a ∧ pre.length + (SM.S ltP La).length + 1 + l.length + post.length = len) := by
        obtain ⟨h1, h2⟩ := HI.out
        obtain ⟨h3, h4, h5⟩ := HI0.out
        have hS := SM.S_length ltP La
        cases Lb with
        | nil =>
          rw [List.append_nil] at h1
          rcases h2 with h2 | ⟨h2, _⟩
          · rw [← h1] at h2; omega
          · rw [h2] at h3; simp at h3; omega
        | cons x l =>
          have h6 : La.length + a = i := by
            rcases h2 with h2 | ⟨h2, h2'⟩
            · exact h2
            · rw [h2] at h3; simp at h3; omega
          rw [h1] at h5
          simp only [List.length_append, List.length_cons] at h5
          exact ⟨x, l, rfl, Lib.hid ⟨h6, h1, by omega, h4, by omega⟩⟩
      go_wp2
      go_loopw [9] (fun jv wr2 => ∃ (j : Nat) (A Bs : List (Pl W0 g)), jv = .int .i64 j ∧ a ≤ j ∧ j ≤ i ∧ Hid (SM.S ltP La = A ++ Bs ∧ A.length + a = j ∧ (∀ y ∈ Bs, ltP x y = true)) ∧ Row wr2 g rest ((pre ++ A) ++ x :: (Bs ++ (Lb ++ post))) ∧ Below B w wr2) (fun j _ => (intOf j).toNat)
      case atStart => exact ⟨i, SM.S ltP La, [], rfl, by omega, Nat.le_refl _, Lib.hid ⟨by simp, HJ.out.2.2.1, by simp⟩, by simpa using HRow.out, HBel.out⟩
      case round =>
        obtain ⟨j, A, Bs, rfl, haj, hji, HA, hRow2, hBel2⟩ := hrel
        -- what holds when the inner loop ends
        have out : (∀ y ∈ A, ltP x y = false) → Hid (SM.S ltP (La ++ [x]) = A ++ x :: Bs) := fun h => Lib.hid (by
          rw [SM.S_snoc, HA.out.1]; exact SM.mrg_one h HA.out.2.2)
        have OUT := Lib.hid out
        clear out
        by_cases hja : a < j
        · have hjaz : decide ((j : Int) > (a : Int)) = true := decide_eq_true (by omega)
          have hjaz2 : (a : Int) < (j : Int) := by omega
          obtain ⟨A', y, rfl⟩ : ∃ A' y, A = A' ++ [y] := by
            have hne : A ≠ [] := by intro e; have := HA.out.2.1; rw [e] at this; simp at this; omega
            exact ⟨A.dropLast, A.getLast hne, (List.dropLast_concat_getLast hne).symm⟩
          obtain ⟨jp, rfl⟩ : ∃ jp, j = jp + 1 := ⟨j - 1, by omega⟩
          have hPl : (pre ++ A').length = jp := by have h1 := HA.out.2.1; have h2 := HJ.out.2.2.2.1; simp only [List.length_append, List.length_singleton] at h1 ⊢; omega
          have hrw : (pre ++ (A' ++ [y])) ++ x :: (Bs ++ (Lb ++ post)) = (pre ++ A') ++ y :: ([] ++ x :: (Bs ++ (Lb ++ post))) := by simp
          rw [hrw] at hRow2
          have gy := get_mid (pre ++ A') ([] ++ x :: (Bs ++ (Lb ++ post))) y
          have gx := get_two (pre ++ A') [] (Bs ++ (Lb ++ post)) y x
          rw [hPl] at gy
          simp only [List.length_nil, Nat.add_zero] at gx
          rw [hPl] at gx
          have hg0 := hRow2.lt
          have KE := Lib.hid (fun p : Later wr => hRow2.2.to p.h)
          have x0 := hRow2.c0 gx
          have x1 := hRow2.c1 gx
          have x2 := hRow2.c2 gx
          have y0 := hRow2.c0 gy
          have y1 := hRow2.c1 gy
          have y2 := hRow2.c2 gy
          have HBel2 := Lib.hid hBel2
          have HRow2 := Lib.hid hRow2
          have HPl := Lib.hid hPl
          have hjl : jp + 1 < len := by omega
          have wj : IntKind.i64.wrap ((jp : Int) + 1 - 1) = (jp : Int) := by rw [show (jp : Int) + 1 - 1 = (jp : Int) by omega]; exact IntWalk.i64_in _ (by omega)
          have wj0 : IntKind.i64.wrap (jp : Int) = (jp : Int) := IntWalk.i64_in _ (by omega)
          have q0 : (a : Int) < (jp : Int) + 1 := by omega
          have q0' : decide ((a : Int) < (jp : Int) + 1) = true := decide_eq_true q0
          have q1 : (jp : Int) + 1 < (len : Int) := by omega
          have q2 : (jp : Int) < (len : Int) := by omega
          have q3 : (0 : Int) ≤ (jp : Int) + 1 := by omega
          have q4 : ((jp : Int) + 1).toNat = jp + 1 := by omega
          clear hrw gx gy hRow2 hBel2 hPl
          have k0 : ∀ p : Later wr, p.v.cell? ⟨g, (jp + 1) * 3, none⟩ = some (.string x.n) := fun p => p.c x0 hg0
          have k1 : ∀ p : Later wr, p.v.cell? ⟨g, (jp + 1) * 3 + 1, none⟩ = some (.string x.v) := fun p => p.c x1 hg0
          have k2 : ∀ p : Later wr, p.v.cell? ⟨g, (jp + 1) * 3 + 2, none⟩ = some (.slice x.q x.m x.c) := fun p => p.c x2 hg0
          have l0 : ∀ p : Later wr, p.v.cell? ⟨g, jp * 3, none⟩ = some (.string y.n) := fun p => p.c y0 hg0
          have l1 : ∀ p : Later wr, p.v.cell? ⟨g, jp * 3 + 1, none⟩ = some (.string y.v) := fun p => p.c y1 hg0
          have l2 : ∀ p : Later wr, p.v.cell? ⟨g, jp * 3 + 2, none⟩ = some (.slice y.q y.m y.c) := fun p => p.c y2 hg0
          clear x0 x1 x2 y0 y1 y2
          by_cases hc : ltP x y = true
          · have hcz : decide (cmpP x y < 0) = true := by rw [cmpP_lt, hc]
            have HC := Lib.hid hc
            have hcz2 : cmpP x y < 0 := of_decide_eq_true hcz
            clear hc
            go_wp2_with fail
            refine wp_region_quiet_later (by assumption) (by kernel_rfl) ?_
            repeat (quiet_step ((go_at_call 40; exact Calls.later_of (cmpR x y _ (KE.out _)))))
            refine wpQuiet_nil ?_
            rintro _ ⟨p, rfl⟩
            have hRp : Row p.v g rest ((pre ++ A') ++ y :: ([] ++ x :: (Bs ++ (Lb ++ post)))) := HRow2.out.to p.h
            have HRp := Lib.hid hRp
            have HBp := Lib.hid (HBel2.out.trans (p.h.mono (by have := HBel2.out.size; exact Nat.le_trans hB (Nat.le_of_lt hg0))))
            clear hRp
            have hgp : g < p.v.heap.size := Nat.lt_of_lt_of_le hg0 p.h.size
            have fx0 := HRp.out.f ((jp + 1) * 3)
            have fx1 := HRp.out.f ((jp + 1) * 3 + 1)
            have fx2 := HRp.out.f ((jp + 1) * 3 + 2)
            have fy0 := HRp.out.f (jp * 3)
            have fy1 := HRp.out.f (jp * 3 + 1)
            have fy2 := HRp.out.f (jp * 3 + 2)
            have x0 := k0 p
            have x1 := k1 p
            have x2 := k2 p
            have y0 := l0 p
            have y1 := l1 p
            have y2 := l2 p
            clear k0 k1 k2 l0 l1 l2
            obtain ⟨wq, hwq⟩ : ∃ wq, wq = p.v := ⟨_, rfl⟩
            rw [← hwq] at HRp HBp hgp fx0 fx1 fx2 fy0 fy1 fy2 x0 x1 x2 y0 y1 y2
            simp only [← hwq]
            clear hwq
            have z0 : ((((wq.setCell ⟨g, (jp + 1) * 3, none⟩ (.string y.n)).setCell ⟨g, (jp + 1) * 3 + 1, none⟩ (.string y.v)).setCell ⟨g, (jp + 1) * 3 + 2, none⟩ (.slice y.q y.m y.c)).drew).cell? ⟨g, jp * 3, none⟩ = some (.string y.n) := (cell_drew _ _).trans <| far3 y0 (by omega) (by omega) (by omega)
            have z1 : (((((wq.setCell ⟨g, (jp + 1) * 3, none⟩ (.string y.n)).setCell ⟨g, (jp + 1) * 3 + 1, none⟩ (.string y.v)).setCell ⟨g, (jp + 1) * 3 + 2, none⟩ (.slice y.q y.m y.c)).setCell ⟨g, jp * 3, none⟩ (.string x.n)).drew).cell? ⟨g, jp * 3 + 1, none⟩ = some (.string y.v) := (cell_drew _ _).trans <| far1 (far3 y1 (by omega) (by omega) (by omega)) (by omega)
            have z2 : ((((((wq.setCell ⟨g, (jp + 1) * 3, none⟩ (.string y.n)).setCell ⟨g, (jp + 1) * 3 + 1, none⟩ (.string y.v)).setCell ⟨g, (jp + 1) * 3 + 2, none⟩ (.slice y.q y.m y.c)).setCell ⟨g, jp * 3, none⟩ (.string x.n)).setCell ⟨g, jp * 3 + 1, none⟩ (.string x.v)).drew).cell? ⟨g, jp * 3 + 2, none⟩ = some (.slice y.q y.m y.c) := (cell_drew _ _).trans <| far1 (far1 (far3 y2 (by omega) (by omega) (by omega)) (by omega)) (by omega)
            go_wp2_with fail
            go_region
            all_goals go_wp2
            go_roundw
            case rel =>
              have hsw := (HRp.out.swap (i := jp + 1) (j := jp) (by have := HPl.out; simp only [List.length_append, List.length_cons, List.length_nil] at this ⊢; omega) (by have := HPl.out; simp only [List.length_append, List.length_cons, List.length_nil] at this ⊢; omega) x y).drew
              have e2 : ((((pre ++ A') ++ y :: ([] ++ x :: (Bs ++ (Lb ++ post)))).set (jp + 1) y).set jp x) = (pre ++ A') ++ x :: ((y :: Bs) ++ (Lb ++ post)) := by
                have e3 := two_set (pre ++ A') [] (Bs ++ (Lb ++ post)) y x
                rw [HPl.out, List.length_nil, Nat.add_zero] at e3
                rw [List.set_comm _ _ (by omega), e3]
                rfl
              rw [e2] at hsw
              obtain ⟨h1, h2, h3⟩ := HA.out
              refine ⟨jp, A', y :: Bs, by go_num, by omega, by omega, Lib.hid ⟨by rw [h1]; simp, by simp only [List.length_append, List.length_singleton] at h2; omega, ?_⟩, hsw, (bel_set6 HBp.out hB _ _ _ _ _ _ _ _ _ _ _ _).drew⟩
              intro z hz
              rcases List.mem_cons.1 hz with rfl | hz
              · exact HC.out
              · exact h3 z hz
            case measure => simp [intOf]
          · have hc' : ltP x y = false := by simpa using hc
            have hcz : decide (cmpP x y < 0) = false := by rw [cmpP_lt, hc']
            have HC := Lib.hid hc'
            have hcz2 : ¬ cmpP x y < 0 := of_decide_eq_false hcz
            clear hc hc'
            go_wp2_with fail
            refine wp_region_quiet_later (by assumption) (by kernel_rfl) ?_
            repeat (quiet_step ((go_at_call 40; exact Calls.later_of (cmpR x y _ (KE.out _)))))
            refine wpQuiet_nil ?_
            rintro _ ⟨p, rfl⟩
            have HRp := Lib.hid (HRow2.out.to p.h)
            have HBp := Lib.hid (HBel2.out.trans (p.h.mono (by have := HBel2.out.size; exact Nat.le_trans hB (Nat.le_of_lt hg0))))
            clear k0 k1 k2 l0 l1 l2
            go_wp2
            go_roundw
            case rel =>
              obtain ⟨h1, h2, h3⟩ := HA.out
              have hs := SM.S_srt ltP_ord La
              rw [h1, List.append_assoc] at hs
              have hpair := (List.pairwise_append.1 hs).2.2
              have hS := (OUT.out (fun z hz => by
                rcases List.mem_append.1 hz with hz | hz
                · exact ltP_ord.trans _ _ _ (hpair z hz y (by simp)) HC.out
                · simp at hz; rw [hz]; exact HC.out)).out
              refine ⟨i + 1, La ++ [x], Lb, by go_num, by omega, by omega, Lib.hid ⟨by rw [HJ.out.2.1]; simp, .inl (by have := HJ.out.1; simp; omega)⟩, ?_, HBp.out⟩
              rw [hS]
              have := HRp.out
              simpa using this
            case measure => simp [intOf]; omega
        · obtain rfl : j = a := by omega
          clear hja
          have hjaz3 : decide ((j : Int) < (j : Int)) = false := decide_eq_false (by omega)
          have HRow2 := Lib.hid hRow2
          have HBel2 := Lib.hid hBel2
          clear hRow2 hBel2
          go_wp2_with fail
          go_quiet (fail)
          have HRp := Lib.hid (show Row (wr.drewN nq) g rest _ from ⟨HRow2.out.1, HRow2.out.2.1, HRow2.out.2.2⟩)
          have HBp := Lib.hid (below_dn HBel2.out nq)
          go_wp2
          go_roundw
          case rel =>
            obtain ⟨h1, h2, h3⟩ := HA.out
            have hA0 : A = [] := List.eq_nil_of_length_eq_zero (by omega)
            have hS := (OUT.out (fun z hz => by rw [hA0] at hz; cases hz)).out
            refine ⟨i + 1, La ++ [x], Lb, by go_num, by omega, by omega, Lib.hid ⟨by rw [HJ.out.2.1]; simp, .inl (by have := HJ.out.1; simp; omega)⟩, ?_, HBp.out⟩
            rw [hS]
            have := HRp.out
            simpa using this
          case measure => simp [intOf]; omega
    · have hltz : ¬ (i : Int) < (b : Int) := by omega
      have HE : Hid (Lb = [] ∧ L = La) := Lib.hid (by
        obtain ⟨h1, h2⟩ := HI.out
        obtain ⟨h3, h4, h5⟩ := HI0.out
        have hl : Lb.length = 0 := by
          rw [h1, List.length_append] at h3
          rcases h2 with h2 | ⟨h2, h2'⟩
          · omega
          · have h6 : (La ++ Lb).length = 0 := by rw [← h1, h2]; rfl
            rw [List.length_append] at h6; omega
        have := List.eq_nil_of_length_eq_zero hl
        exact ⟨this, by rw [h1, this]; simp⟩)
      go_wp2
      go_end0
      refine ⟨rfl, ?_, HBel.out⟩
      have := HRow.out
      rw [HE.out.1, List.nil_append, ← HE.out.2] at this
      exact this
end Go.Proofs.YtnjnhgeafbofkaaDoor
