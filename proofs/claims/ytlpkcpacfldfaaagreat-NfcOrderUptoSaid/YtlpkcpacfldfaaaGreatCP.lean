import Derived.Test.YtlpkcpacfldfaaaGreatGB
import Derived.Test.YtlpkcpacfldfaaaGreatGH
namespace Go.Proofs.YtlpkcpacfldfaaaGreat
open Go.RowKit N
def spB (x : Sp) : Bool := if 4 ≤ x.st then false else if x.st = 2 then decide (x.map.length ≤ 8) else decide (x.map.length = 0)
def clB (x : Cl) : Bool := decide (1 ≤ x.c) && decide (x.c ≤ 254)
def paB (x : Pa) : Bool := decide (x.a < x.r) && (decide (x.b < x.r) && (decide (x.b ≠ 0) || x.one))
def wyB (x : Sg) : Bool := decide (0 < x.k) && decide (x.k < 12)
def jnB (x : Sg) : Bool := decide (0 < x.k) && decide (x.k < 5)
set_option maxHeartbeats 1000000 in
theorem spanHolds (x : Sp) (hm : ∃ p c, x.mv = .slice p x.map.length c) (w : World) : Calls Tryz.prog 156 #[.agg #[.int .i32 x.lo, .int .i32 x.hi, .int .u8 x.st, x.mv]] w fun e w' => e = .returned (.bool (spB x)) ∧ Below w.heap.size w w' := by
  obtain ⟨mp, mc, hm⟩ := hm
  obtain ⟨b, hb⟩ : ∃ b, spB x = b := ⟨_, rfl⟩
  rw [hb]
  unfold spB at hb
  obtain ⟨lo, hi, st, mv, map⟩ := x
  simp only at hm hb ⊢
  subst hm
  by_cases h4 : 4 ≤ st
  · have HB : Hid (b = false) := Lib.hid (by rw [← hb, if_pos h4])
    have d1 : decide (4 ≤ st) = true := decide_eq_true h4
    clear hb
    go_enter Tryz.func156, Tryz.ntmps156
    go_wp2
    go_ret
    exact ⟨by rw [HB.out]; rfl, bnew _ _⟩
  · rw [if_neg h4] at hb
    have d1 : decide (4 ≤ st) = false := decide_eq_false h4
    by_cases h2 : st = 2
    · rw [if_pos h2] at hb
      have d2 : (st == 2) = true := by simpa using h2
      have HB := Lib.hid hb
      clear hb h2
      go_enter Tryz.func156, Tryz.ntmps156
      go_wp2
      go_ret
      refine ⟨ret_bool ?_, bnew _ _⟩
      rw [← HB.out, Bool.eq_iff_iff]; simp; try omega
    · rw [if_neg h2] at hb
      have d2 : (st == 2) = false := by simpa using h2
      have HB := Lib.hid hb
      clear hb h2
      go_enter Tryz.func156, Tryz.ntmps156
      go_wp2
      go_ret
      refine ⟨ret_bool ?_, bnew _ _⟩
      rw [← HB.out, Bool.eq_iff_iff]; simp
set_option maxHeartbeats 1000000 in
theorem classHolds (x : Cl) (w : World) : Calls Tryz.prog 159 #[.agg #[.int .i32 x.r, .int .u8 x.c]] w fun e w' => e = .returned (.bool (clB x)) ∧ Below w.heap.size w w' := by
  have H : Hid (clB x = (decide (1 ≤ x.c) && decide (x.c ≤ 254))) := Lib.hid rfl
  by_cases h1 : 1 ≤ x.c
  · have d1 : decide (1 ≤ x.c) = true := decide_eq_true h1
    by_cases h2 : x.c ≤ 254
    · have d2 : decide (x.c ≤ 254) = true := decide_eq_true h2
      go_enter Tryz.func159, Tryz.ntmps159
      go_wp2
      go_ret
      exact ⟨ret_bool (by rw [H.out]; simp [h1, h2]), bnew _ _⟩
    · have d2 : decide (x.c ≤ 254) = false := decide_eq_false h2
      go_enter Tryz.func159, Tryz.ntmps159
      go_wp2
      go_ret
      exact ⟨ret_bool (by rw [H.out]; simp [h1, h2]), bnew _ _⟩
  · have d1 : decide (1 ≤ x.c) = false := decide_eq_false h1
    go_enter Tryz.func159, Tryz.ntmps159
    go_wp2
    go_ret
    exact ⟨ret_bool (by rw [H.out]; simp; omega), bnew _ _⟩
set_option maxHeartbeats 1000000 in
theorem wayHolds (x : Sg) (w : World) : Calls Tryz.prog 166 #[.agg #[.int .i32 x.lo, .int .i32 x.hi, .int .u8 x.k]] w fun e w' => e = .returned (.bool (wyB x)) ∧ Below w.heap.size w w' := by
  have H : Hid (wyB x = (decide (0 < x.k) && decide (x.k < 12))) := Lib.hid rfl
  by_cases h1 : 0 < x.k
  · have d1 : decide (0 < x.k) = true := decide_eq_true h1
    by_cases h2 : x.k < 12
    · have d2 : decide (x.k < 12) = true := decide_eq_true h2
      go_enter Tryz.func166, Tryz.ntmps166
      go_wp2
      go_ret
      exact ⟨ret_bool (by rw [H.out]; simp [h1, h2]), bnew _ _⟩
    · have d2 : decide (x.k < 12) = false := decide_eq_false h2
      go_enter Tryz.func166, Tryz.ntmps166
      go_wp2
      go_ret
      exact ⟨ret_bool (by rw [H.out]; simp [h1, h2]), bnew _ _⟩
  · have d1 : decide (0 < x.k) = false := decide_eq_false h1
    go_enter Tryz.func166, Tryz.ntmps166
    go_wp2
    go_ret
    exact ⟨ret_bool (by rw [H.out]; simp; omega), bnew _ _⟩
set_option maxHeartbeats 1000000 in
theorem joinHolds (x : Sg) (w : World) : Calls Tryz.prog 169 #[.agg #[.int .i32 x.lo, .int .i32 x.hi, .int .u8 x.k]] w fun e w' => e = .returned (.bool (jnB x)) ∧ Below w.heap.size w w' := by
  have H : Hid (jnB x = (decide (0 < x.k) && decide (x.k < 5))) := Lib.hid rfl
  by_cases h1 : 0 < x.k
  · have d1 : decide (0 < x.k) = true := decide_eq_true h1
    by_cases h2 : x.k < 5
    · have d2 : decide (x.k < 5) = true := decide_eq_true h2
      go_enter Tryz.func169, Tryz.ntmps169
      go_wp2
      go_ret
      exact ⟨ret_bool (by rw [H.out]; simp [h1, h2]), bnew _ _⟩
    · have d2 : decide (x.k < 5) = false := decide_eq_false h2
      go_enter Tryz.func169, Tryz.ntmps169
      go_wp2
      go_ret
      exact ⟨ret_bool (by rw [H.out]; simp [h1, h2]), bnew _ _⟩
  · have d1 : decide (0 < x.k) = false := decide_eq_false h1
    go_enter Tryz.func169, Tryz.ntmps169
    go_wp2
    go_ret
    exact ⟨ret_bool (by rw [H.out]; simp; omega), bnew _ _⟩
set_option maxHeartbeats 2000000 in
theorem pairHolds (x : Pa) (w : World) : Calls Tryz.prog 162 #[.agg #[.int .i32 x.r, .int .i32 x.a, .int .i32 x.b, .bool x.one]] w fun e w' => e = .returned (.bool (paB x)) ∧ Below w.heap.size w w' := by
  have H : Hid (paB x = (decide (x.a < x.r) && (decide (x.b < x.r) && (decide (x.b ≠ 0) || x.one)))) := Lib.hid rfl
  by_cases h1 : x.a < x.r
  · have d1 : decide (x.a < x.r) = true := decide_eq_true h1
    by_cases h2 : x.b < x.r
    · have d2 : decide (x.b < x.r) = true := decide_eq_true h2
      by_cases h3 : x.b = 0
      · have d3 : (x.b != 0) = false := by simp [h3]
        have HH : Hid (paB x = x.one) := Lib.hid (by have h2z := h2; rw [h3] at h2z; rw [H.out]; simp [h1, h3, h2z])
        clear h3
        go_enter Tryz.func162, Tryz.ntmps162
        go_wp2
        go_ret
        exact ⟨ret_bool (by rw [HH.out]), bnew _ _⟩
      · have d3 : (x.b != 0) = true := by simp [h3]
        have HH : Hid (paB x = true) := Lib.hid (by rw [H.out]; simp [h1, h2, h3])
        clear h3
        go_enter Tryz.func162, Tryz.ntmps162
        go_wp2
        go_ret
        exact ⟨ret_bool (by rw [HH.out]), bnew _ _⟩
    · have d2 : decide (x.b < x.r) = false := decide_eq_false h2
      have HH : Hid (paB x = false) := Lib.hid (by rw [H.out]; simp [h2])
      go_enter Tryz.func162, Tryz.ntmps162
      go_wp2
      go_ret
      exact ⟨ret_bool (by rw [HH.out]), bnew _ _⟩
  · have d1 : decide (x.a < x.r) = false := decide_eq_false h1
    have HH : Hid (paB x = false) := Lib.hid (by rw [H.out]; simp [h1])
    go_enter Tryz.func162, Tryz.ntmps162
    go_wp2
    go_ret
    exact ⟨ret_bool (by rw [HH.out]), bnew _ _⟩
end Go.Proofs.YtlpkcpacfldfaaaGreat
