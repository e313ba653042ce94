import Derived.Test.YtbclodbneonipaaGreatTCM
import Derived.Test.YtbclodbneonipaaGreatTGM
import Derived.Test.YtbclodbneonipaaGreatSDM
import Derived.Test.YtbclodbneonipaaGreatCEjoinM
namespace Go.Proofs.YtbclodbneonipaaGreat
open Go.RowKit N
set_option maxRecDepth 20000 in
set_option maxHeartbeats 4000000 in
theorem rise_way (v : Value) (l : List Sg) (b : Bool) (hb : riseF (-1) (l.map fun x => (x.lo, x.hi)) = b) (w : World) (hl : l.length ≤ maxLen) (h : Lst w 3 encSg v l) :
    Calls Tryz.prog 76 #[.agg #[v, .func (.func 103) #[] #[]]] w fun e w' => e = .returned (.bool b) ∧ Below w.heap.size w w' := by
  unfold maxLen at hl
  obtain ⟨p, cap, rfl, hn, hc⟩ := h
  have HC := Lib.hid hc
  have HBB := Lib.hid hb

  clear hc hn hb 
  have hG := Has.new w (.cells #[.slice p l.length cap, .func (.func 103) #[] #[]] 126)
  have HG0 := Lib.hid hG
  clear hG
  go_enter Tryz.func76, Tryz.ntmps76
  go_wp2
  go_loopw [3, 11] (fun zv i wr => ∃ (k : Nat) (z : Int), zv = .int .i32 z ∧ k ≤ l.length ∧ i = .int .i64 k ∧ Hid (riseF z ((l.map fun x => (x.lo, x.hi)).drop k) = b) ∧ Below w.heap.size w wr ∧ Hid (Has wr w.heap.size (.cells #[.slice p l.length cap, .func (.func 103) #[] #[]] 126))) (fun _ i _ => l.length - (intOf i).toNat)
  case atStart => exact ⟨0, -1, rfl, Nat.zero_le _, rfl, HBB, bnew _ _, HG0⟩
  case round =>
    obtain ⟨k, z, rfl, hk, rfl, HN, hB, HG⟩ := hrel
    by_cases hlt : k < l.length
    · obtain ⟨g1, o, rfl, hg, hx⟩ := HC.out k l[k] (List.getElem?_eq_getElem hlt)
      have c0 := (hB.cell (p := ⟨g1, o + k * 3, none⟩) hg).trans (hx 0 _ rfl)
      have c1 := (hB.cell (p := ⟨g1, o + k * 3 + 1, none⟩) hg).trans (hx 1 _ rfl)
      have c2 := (hB.cell (p := ⟨g1, o + k * 3 + 2, none⟩) hg).trans (hx 2 _ rfl)
      obtain ⟨ek, hek⟩ : ∃ x, x = l[k] := ⟨_, rfl⟩
      rw [← hek] at c0 c1 c2
      have HS : Hid ((if ek.lo ≤ z ∨ ek.hi < ek.lo ∨ (ek.lo < 55296 ∧ 57343 < ek.hi) then false else riseF ek.hi ((l.map fun x => (x.lo, x.hi)).drop (k + 1))) = b) := Lib.hid (by
        have := HN.out
        rw [List.drop_eq_getElem_cons (by simpa using hlt)] at this
        simp only [List.getElem_map, ← hek, riseF] at this
        exact this)
      have hmem : Hid (ek ∈ l) := Lib.hid (by rw [hek]; exact List.getElem_mem hlt)
      have r0 : wr.cell? ⟨w.heap.size, 0, none⟩ = some (.slice (some ⟨g1, o, none⟩) l.length cap) := HG.out.cell 0 rfl
      have r1 : wr.cell? ⟨w.heap.size, 1, none⟩ = some (.func (.func 103) #[] #[]) := HG.out.cell 1 rfl
      have hwl := HG.out.lt
      have HB := Lib.hid hB
      have hBs := hB.size
      clear hx hek hB HN
      by_cases q1 : ek.lo ≤ z
      · have d1 : decide (ek.lo ≤ z) = true := decide_eq_true q1
        have HF : Hid (b = false) := Lib.hid (by rw [← HS.out, if_pos (.inl q1)])
        go_wp2_with fail
        refine (ends_way_any _ _ _ _).mono ?_
        rintro e w1 ⟨rfl, hb1⟩
        have HB1 := Lib.hid ((HB.out.alloc hBs _).trans (hb1.mono (by rw [World.size_alloc]; exact Nat.le_succ_of_le hBs)))
        have HG1 := Lib.hid ((HG.out.alloc _).to hb1)
        clear hb1
        go_wp2
        go_ret
        exact ⟨by rw [HF.out]; rfl, HB1.out⟩
      · have d1 : decide (ek.lo ≤ z) = false := decide_eq_false q1
        by_cases q2 : ek.hi < ek.lo
        · have d2 : decide (ek.hi < ek.lo) = true := decide_eq_true q2
          have HF : Hid (b = false) := Lib.hid (by rw [← HS.out, if_pos (.inr (.inl q2))])
          go_wp2_with fail
          refine (ends_way_any _ _ _ _).mono ?_
          rintro e w1 ⟨rfl, hb1⟩
          have HB1 := Lib.hid ((HB.out.alloc hBs _).trans (hb1.mono (by rw [World.size_alloc]; exact Nat.le_succ_of_le hBs)))
          have HG1 := Lib.hid ((HG.out.alloc _).to hb1)
          clear hb1
          go_wp2
          go_ret
          exact ⟨by rw [HF.out]; rfl, HB1.out⟩
        · have d2 : decide (ek.hi < ek.lo) = false := decide_eq_false q2
          by_cases q3 : ek.lo < 55296
          · have d3 : decide (ek.lo < 55296) = true := decide_eq_true q3
            by_cases q4 : 57343 < ek.hi
            · have d4 : decide (57343 < ek.hi) = true := decide_eq_true q4
              have HF : Hid (b = false) := Lib.hid (by rw [← HS.out, if_pos (.inr (.inr ⟨q3, q4⟩))])
              go_wp2_with fail
              refine (ends_way_any _ _ _ _).mono ?_
              rintro e w1 ⟨rfl, hb1⟩
              have HB1 := Lib.hid ((HB.out.alloc hBs _).trans (hb1.mono (by rw [World.size_alloc]; exact Nat.le_succ_of_le hBs)))
              have HG1 := Lib.hid ((HG.out.alloc _).to hb1)
              clear hb1
              go_wp2
              go_ret
              exact ⟨by rw [HF.out]; rfl, HB1.out⟩
            · have d4 : decide (57343 < ek.hi) = false := decide_eq_false q4
              have HF : Hid (riseF ek.hi ((l.map fun x => (x.lo, x.hi)).drop (k + 1)) = b) := Lib.hid (by rw [← HS.out, if_neg (by omega)])
              go_wp2_with fail
              refine (ends_way_any _ _ _ _).mono ?_
              rintro e w1 ⟨rfl, hb1⟩
              have HB1 := Lib.hid ((HB.out.alloc hBs _).trans (hb1.mono (by rw [World.size_alloc]; exact Nat.le_succ_of_le hBs)))
              have HG1 := Lib.hid ((HG.out.alloc _).to hb1)
              clear hb1
              go_wp2
              go_roundw
              case rel => exact ⟨k + 1, ek.hi, rfl, by omega, by go_num, HF, HB1.out, HG1⟩
              case measure => simp [intOf]; omega
          · have d3 : decide (ek.lo < 55296) = false := decide_eq_false q3
            have HF : Hid (riseF ek.hi ((l.map fun x => (x.lo, x.hi)).drop (k + 1)) = b) := Lib.hid (by rw [← HS.out, if_neg (by omega)])
            go_wp2_with fail
            refine (ends_way_any _ _ _ _).mono ?_
            rintro e w1 ⟨rfl, hb1⟩
            have HB1 := Lib.hid ((HB.out.alloc hBs _).trans (hb1.mono (by rw [World.size_alloc]; exact Nat.le_succ_of_le hBs)))
            have HG1 := Lib.hid ((HG.out.alloc _).to hb1)
            clear hb1
            go_wp2
            go_roundw
            case rel => exact ⟨k + 1, ek.hi, rfl, by omega, by go_num, HF, HB1.out, HG1⟩
            case measure => simp [intOf]; omega
    · have HF : Hid (b = true) := Lib.hid (by
        have := HN.out
        rw [List.drop_of_length_le (by simp; omega)] at this
        rw [← this]; rfl)
      have HB := Lib.hid hB
      clear hB
      go_wp2
      go_ret
      exact ⟨by rw [HF.out]; rfl, HB.out⟩
end Go.Proofs.YtbclodbneonipaaGreat
namespace Go.Proofs.YtbclodbneonipaaGreat
open Go.RowKit N
set_option maxRecDepth 20000 in
set_option maxHeartbeats 4000000 in
theorem rise_join (v : Value) (l : List Sg) (b : Bool) (hb : riseF (-1) (l.map fun x => (x.lo, x.hi)) = b) (w : World) (hl : l.length ≤ maxLen) (h : Lst w 3 encSg v l) :
    Calls Tryz.prog 78 #[.agg #[v, .func (.func 104) #[] #[]]] w fun e w' => e = .returned (.bool b) ∧ Below w.heap.size w w' := by
  unfold maxLen at hl
  obtain ⟨p, cap, rfl, hn, hc⟩ := h
  have HC := Lib.hid hc
  have HBB := Lib.hid hb

  clear hc hn hb 
  have hG := Has.new w (.cells #[.slice p l.length cap, .func (.func 104) #[] #[]] 131)
  have HG0 := Lib.hid hG
  clear hG
  go_enter Tryz.func78, Tryz.ntmps78
  go_wp2
  go_loopw [3, 11] (fun zv i wr => ∃ (k : Nat) (z : Int), zv = .int .i32 z ∧ k ≤ l.length ∧ i = .int .i64 k ∧ Hid (riseF z ((l.map fun x => (x.lo, x.hi)).drop k) = b) ∧ Below w.heap.size w wr ∧ Hid (Has wr w.heap.size (.cells #[.slice p l.length cap, .func (.func 104) #[] #[]] 131))) (fun _ i _ => l.length - (intOf i).toNat)
  case atStart => exact ⟨0, -1, rfl, Nat.zero_le _, rfl, HBB, bnew _ _, HG0⟩
  case round =>
    obtain ⟨k, z, rfl, hk, rfl, HN, hB, HG⟩ := hrel
    by_cases hlt : k < l.length
    · obtain ⟨g1, o, rfl, hg, hx⟩ := HC.out k l[k] (List.getElem?_eq_getElem hlt)
      have c0 := (hB.cell (p := ⟨g1, o + k * 3, none⟩) hg).trans (hx 0 _ rfl)
      have c1 := (hB.cell (p := ⟨g1, o + k * 3 + 1, none⟩) hg).trans (hx 1 _ rfl)
      have c2 := (hB.cell (p := ⟨g1, o + k * 3 + 2, none⟩) hg).trans (hx 2 _ rfl)
      obtain ⟨ek, hek⟩ : ∃ x, x = l[k] := ⟨_, rfl⟩
      rw [← hek] at c0 c1 c2
      have HS : Hid ((if ek.lo ≤ z ∨ ek.hi < ek.lo ∨ (ek.lo < 55296 ∧ 57343 < ek.hi) then false else riseF ek.hi ((l.map fun x => (x.lo, x.hi)).drop (k + 1))) = b) := Lib.hid (by
        have := HN.out
        rw [List.drop_eq_getElem_cons (by simpa using hlt)] at this
        simp only [List.getElem_map, ← hek, riseF] at this
        exact this)
      have hmem : Hid (ek ∈ l) := Lib.hid (by rw [hek]; exact List.getElem_mem hlt)
      have r0 : wr.cell? ⟨w.heap.size, 0, none⟩ = some (.slice (some ⟨g1, o, none⟩) l.length cap) := HG.out.cell 0 rfl
      have r1 : wr.cell? ⟨w.heap.size, 1, none⟩ = some (.func (.func 104) #[] #[]) := HG.out.cell 1 rfl
      have hwl := HG.out.lt
      have HB := Lib.hid hB
      have hBs := hB.size
      clear hx hek hB HN
      by_cases q1 : ek.lo ≤ z
      · have d1 : decide (ek.lo ≤ z) = true := decide_eq_true q1
        have HF : Hid (b = false) := Lib.hid (by rw [← HS.out, if_pos (.inl q1)])
        go_wp2_with fail
        refine (ends_join_any _ _ _ _).mono ?_
        rintro e w1 ⟨rfl, hb1⟩
        have HB1 := Lib.hid ((HB.out.alloc hBs _).trans (hb1.mono (by rw [World.size_alloc]; exact Nat.le_succ_of_le hBs)))
        have HG1 := Lib.hid ((HG.out.alloc _).to hb1)
        clear hb1
        go_wp2
        go_ret
        exact ⟨by rw [HF.out]; rfl, HB1.out⟩
      · have d1 : decide (ek.lo ≤ z) = false := decide_eq_false q1
        by_cases q2 : ek.hi < ek.lo
        · have d2 : decide (ek.hi < ek.lo) = true := decide_eq_true q2
          have HF : Hid (b = false) := Lib.hid (by rw [← HS.out, if_pos (.inr (.inl q2))])
          go_wp2_with fail
          refine (ends_join_any _ _ _ _).mono ?_
          rintro e w1 ⟨rfl, hb1⟩
          have HB1 := Lib.hid ((HB.out.alloc hBs _).trans (hb1.mono (by rw [World.size_alloc]; exact Nat.le_succ_of_le hBs)))
          have HG1 := Lib.hid ((HG.out.alloc _).to hb1)
          clear hb1
          go_wp2
          go_ret
          exact ⟨by rw [HF.out]; rfl, HB1.out⟩
        · have d2 : decide (ek.hi < ek.lo) = false := decide_eq_false q2
          by_cases q3 : ek.lo < 55296
          · have d3 : decide (ek.lo < 55296) = true := decide_eq_true q3
            by_cases q4 : 57343 < ek.hi
            · have d4 : decide (57343 < ek.hi) = true := decide_eq_true q4
              have HF : Hid (b = false) := Lib.hid (by rw [← HS.out, if_pos (.inr (.inr ⟨q3, q4⟩))])
              go_wp2_with fail
              refine (ends_join_any _ _ _ _).mono ?_
              rintro e w1 ⟨rfl, hb1⟩
              have HB1 := Lib.hid ((HB.out.alloc hBs _).trans (hb1.mono (by rw [World.size_alloc]; exact Nat.le_succ_of_le hBs)))
              have HG1 := Lib.hid ((HG.out.alloc _).to hb1)
              clear hb1
              go_wp2
              go_ret
              exact ⟨by rw [HF.out]; rfl, HB1.out⟩
            · have d4 : decide (57343 < ek.hi) = false := decide_eq_false q4
              have HF : Hid (riseF ek.hi ((l.map fun x => (x.lo, x.hi)).drop (k + 1)) = b) := Lib.hid (by rw [← HS.out, if_neg (by omega)])
              go_wp2_with fail
              refine (ends_join_any _ _ _ _).mono ?_
              rintro e w1 ⟨rfl, hb1⟩
              have HB1 := Lib.hid ((HB.out.alloc hBs _).trans (hb1.mono (by rw [World.size_alloc]; exact Nat.le_succ_of_le hBs)))
              have HG1 := Lib.hid ((HG.out.alloc _).to hb1)
              clear hb1
              go_wp2
              go_roundw
              case rel => exact ⟨k + 1, ek.hi, rfl, by omega, by go_num, HF, HB1.out, HG1⟩
              case measure => simp [intOf]; omega
          · have d3 : decide (ek.lo < 55296) = false := decide_eq_false q3
            have HF : Hid (riseF ek.hi ((l.map fun x => (x.lo, x.hi)).drop (k + 1)) = b) := Lib.hid (by rw [← HS.out, if_neg (by omega)])
            go_wp2_with fail
            refine (ends_join_any _ _ _ _).mono ?_
            rintro e w1 ⟨rfl, hb1⟩
            have HB1 := Lib.hid ((HB.out.alloc hBs _).trans (hb1.mono (by rw [World.size_alloc]; exact Nat.le_succ_of_le hBs)))
            have HG1 := Lib.hid ((HG.out.alloc _).to hb1)
            clear hb1
            go_wp2
            go_roundw
            case rel => exact ⟨k + 1, ek.hi, rfl, by omega, by go_num, HF, HB1.out, HG1⟩
            case measure => simp [intOf]; omega
    · have HF : Hid (b = true) := Lib.hid (by
        have := HN.out
        rw [List.drop_of_length_le (by simp; omega)] at this
        rw [← this]; rfl)
      have HB := Lib.hid hB
      clear hB
      go_wp2
      go_ret
      exact ⟨by rw [HF.out]; rfl, HB.out⟩
end Go.Proofs.YtbclodbneonipaaGreat
namespace Go.Proofs.YtbclodbneonipaaGreat
open Go.RowKit N
def spB (x : Sp) : Bool := if 4 ≤ x.st then false else if x.st = 2 then decide (x.map.length ≤ 8) else decide (x.map.length = 0)
def clB (x : Cl) : Bool := decide (1 ≤ x.c) && decide (x.c ≤ 254)
def paB (x : Pa) : Bool := decide (x.a < x.r) && (decide (x.b < x.r) && (decide (x.b ≠ 0) || x.one))
def wyB (x : Sg) : Bool := decide (0 < x.k) && decide (x.k < 12)
def jnB (x : Sg) : Bool := decide (0 < x.k) && decide (x.k < 5)
set_option maxHeartbeats 1000000 in
theorem spanHolds (x : Sp) (hm : ∃ p c, x.mv = .slice p x.map.length c) (w : World) : Calls Tryz.prog 56 #[.agg #[.int .i32 x.lo, .int .i32 x.hi, .int .u8 x.st, x.mv]] w fun e w' => e = .returned (.bool (spB x)) ∧ Below w.heap.size w w' := by
  obtain ⟨mp, mc, hm⟩ := hm
  obtain ⟨b, hb⟩ : ∃ b, spB x = b := ⟨_, rfl⟩
  rw [hb]
  unfold spB at hb
  obtain ⟨lo, hi, st, mv, map⟩ := x
  simp only at hm hb ⊢
  subst hm
  by_cases h4 : 4 ≤ st
  · have HB : Hid (b = false) := Lib.hid (by rw [← hb, if_pos h4])
    have d1 : decide (4 ≤ st) = true := decide_eq_true h4
    clear hb
    go_enter Tryz.func56, Tryz.ntmps56
    go_wp2
    go_ret
    exact ⟨by rw [HB.out]; rfl, bnew _ _⟩
  · rw [if_neg h4] at hb
    have d1 : decide (4 ≤ st) = false := decide_eq_false h4
    by_cases h2 : st = 2
    · rw [if_pos h2] at hb
      have d2 : (st == 2) = true := by simpa using h2
      have HB := Lib.hid hb
      clear hb h2
      go_enter Tryz.func56, Tryz.ntmps56
      go_wp2
      go_ret
      refine ⟨ret_bool ?_, bnew _ _⟩
      rw [← HB.out, Bool.eq_iff_iff]; simp; try omega
    · rw [if_neg h2] at hb
      have d2 : (st == 2) = false := by simpa using h2
      have HB := Lib.hid hb
      clear hb h2
      go_enter Tryz.func56, Tryz.ntmps56
      go_wp2
      go_ret
      refine ⟨ret_bool ?_, bnew _ _⟩
      rw [← HB.out, Bool.eq_iff_iff]; simp
set_option maxHeartbeats 1000000 in
theorem classHolds (x : Cl) (w : World) : Calls Tryz.prog 59 #[.agg #[.int .i32 x.r, .int .u8 x.c]] w fun e w' => e = .returned (.bool (clB x)) ∧ Below w.heap.size w w' := by
  have H : Hid (clB x = (decide (1 ≤ x.c) && decide (x.c ≤ 254))) := Lib.hid rfl
  by_cases h1 : 1 ≤ x.c
  · have d1 : decide (1 ≤ x.c) = true := decide_eq_true h1
    by_cases h2 : x.c ≤ 254
    · have d2 : decide (x.c ≤ 254) = true := decide_eq_true h2
      go_enter Tryz.func59, Tryz.ntmps59
      go_wp2
      go_ret
      exact ⟨ret_bool (by rw [H.out]; simp [h1, h2]), bnew _ _⟩
    · have d2 : decide (x.c ≤ 254) = false := decide_eq_false h2
      go_enter Tryz.func59, Tryz.ntmps59
      go_wp2
      go_ret
      exact ⟨ret_bool (by rw [H.out]; simp [h1, h2]), bnew _ _⟩
  · have d1 : decide (1 ≤ x.c) = false := decide_eq_false h1
    go_enter Tryz.func59, Tryz.ntmps59
    go_wp2
    go_ret
    exact ⟨ret_bool (by rw [H.out]; simp; omega), bnew _ _⟩
set_option maxHeartbeats 1000000 in
theorem wayHolds (x : Sg) (w : World) : Calls Tryz.prog 66 #[.agg #[.int .i32 x.lo, .int .i32 x.hi, .int .u8 x.k]] w fun e w' => e = .returned (.bool (wyB x)) ∧ Below w.heap.size w w' := by
  have H : Hid (wyB x = (decide (0 < x.k) && decide (x.k < 12))) := Lib.hid rfl
  by_cases h1 : 0 < x.k
  · have d1 : decide (0 < x.k) = true := decide_eq_true h1
    by_cases h2 : x.k < 12
    · have d2 : decide (x.k < 12) = true := decide_eq_true h2
      go_enter Tryz.func66, Tryz.ntmps66
      go_wp2
      go_ret
      exact ⟨ret_bool (by rw [H.out]; simp [h1, h2]), bnew _ _⟩
    · have d2 : decide (x.k < 12) = false := decide_eq_false h2
      go_enter Tryz.func66, Tryz.ntmps66
      go_wp2
      go_ret
      exact ⟨ret_bool (by rw [H.out]; simp [h1, h2]), bnew _ _⟩
  · have d1 : decide (0 < x.k) = false := decide_eq_false h1
    go_enter Tryz.func66, Tryz.ntmps66
    go_wp2
    go_ret
    exact ⟨ret_bool (by rw [H.out]; simp; omega), bnew _ _⟩
set_option maxHeartbeats 1000000 in
theorem joinHolds (x : Sg) (w : World) : Calls Tryz.prog 69 #[.agg #[.int .i32 x.lo, .int .i32 x.hi, .int .u8 x.k]] w fun e w' => e = .returned (.bool (jnB x)) ∧ Below w.heap.size w w' := by
  have H : Hid (jnB x = (decide (0 < x.k) && decide (x.k < 5))) := Lib.hid rfl
  by_cases h1 : 0 < x.k
  · have d1 : decide (0 < x.k) = true := decide_eq_true h1
    by_cases h2 : x.k < 5
    · have d2 : decide (x.k < 5) = true := decide_eq_true h2
      go_enter Tryz.func69, Tryz.ntmps69
      go_wp2
      go_ret
      exact ⟨ret_bool (by rw [H.out]; simp [h1, h2]), bnew _ _⟩
    · have d2 : decide (x.k < 5) = false := decide_eq_false h2
      go_enter Tryz.func69, Tryz.ntmps69
      go_wp2
      go_ret
      exact ⟨ret_bool (by rw [H.out]; simp [h1, h2]), bnew _ _⟩
  · have d1 : decide (0 < x.k) = false := decide_eq_false h1
    go_enter Tryz.func69, Tryz.ntmps69
    go_wp2
    go_ret
    exact ⟨ret_bool (by rw [H.out]; simp; omega), bnew _ _⟩
set_option maxHeartbeats 2000000 in
theorem pairHolds (x : Pa) (w : World) : Calls Tryz.prog 62 #[.agg #[.int .i32 x.r, .int .i32 x.a, .int .i32 x.b, .bool x.one]] w fun e w' => e = .returned (.bool (paB x)) ∧ Below w.heap.size w w' := by
  have H : Hid (paB x = (decide (x.a < x.r) && (decide (x.b < x.r) && (decide (x.b ≠ 0) || x.one)))) := Lib.hid rfl
  by_cases h1 : x.a < x.r
  · have d1 : decide (x.a < x.r) = true := decide_eq_true h1
    by_cases h2 : x.b < x.r
    · have d2 : decide (x.b < x.r) = true := decide_eq_true h2
      by_cases h3 : x.b = 0
      · have d3 : (x.b != 0) = false := by simp [h3]
        have HH : Hid (paB x = x.one) := Lib.hid (by have h2z := h2; rw [h3] at h2z; rw [H.out]; simp [h1, h3, h2z])
        clear h3
        go_enter Tryz.func62, Tryz.ntmps62
        go_wp2
        go_ret
        exact ⟨ret_bool (by rw [HH.out]), bnew _ _⟩
      · have d3 : (x.b != 0) = true := by simp [h3]
        have HH : Hid (paB x = true) := Lib.hid (by rw [H.out]; simp [h1, h2, h3])
        clear h3
        go_enter Tryz.func62, Tryz.ntmps62
        go_wp2
        go_ret
        exact ⟨ret_bool (by rw [HH.out]), bnew _ _⟩
    · have d2 : decide (x.b < x.r) = false := decide_eq_false h2
      have HH : Hid (paB x = false) := Lib.hid (by rw [H.out]; simp [h2])
      go_enter Tryz.func62, Tryz.ntmps62
      go_wp2
      go_ret
      exact ⟨ret_bool (by rw [HH.out]), bnew _ _⟩
  · have d1 : decide (x.a < x.r) = false := decide_eq_false h1
    have HH : Hid (paB x = false) := Lib.hid (by rw [H.out]; simp [h1])
    go_enter Tryz.func62, Tryz.ntmps62
    go_wp2
    go_ret
    exact ⟨ret_bool (by rw [HH.out]), bnew _ _⟩
end Go.Proofs.YtbclodbneonipaaGreat
