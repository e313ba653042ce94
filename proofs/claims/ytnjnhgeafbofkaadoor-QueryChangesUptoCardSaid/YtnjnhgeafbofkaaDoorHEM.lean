/-
  The contracts of cmp.Compare at uint16, slices.Compare at []uint16, and of query.Sort's order: by the units, one after another; what is shorter goes first.
-/
import Derived.Test.YtnjnhgeafbofkaaDoorG3M
namespace Go.Proofs.YtnjnhgeafbofkaaDoor
open Go.RowKit
def cmpI (x y : Int) : Int := if x < y then -1 else if y < x then 1 else 0
theorem retI {a b : Int} (h : a = b) : Ending.returned (.int .i64 a) = Ending.returned (.int .i64 b) := by rw [h]
set_option maxHeartbeats 400000 in
theorem nan82 (x : Int) (w : World) : Calls Tryd.prog 82 #[.int .u16 x] w fun e w' => e = .returned (.bool false) ∧ w = w' := by
  have h : (x != x) = false := by simp
  go_enter Tryd.func82, Tryd.ntmps82
  go_wp2
  go_ret
  exact ⟨ret_bool (by simp), rfl⟩
set_option maxHeartbeats 1000000 in
theorem compare61 (x y : Int) (w : World) : Calls Tryd.prog 61 #[.int .u16 x, .int .u16 y] w fun e w' => e = .returned (.int .i64 (cmpI x y)) ∧ w = w' := by
  by_cases h1 : x < y
  · have HC := Lib.hid (show cmpI x y = -1 by unfold cmpI; rw [if_pos h1])
    go_enter Tryd.func61, Tryd.ntmps61
    go_wp2_with (first | (go_at_call 82; refine (nan82 _ _).mono ?_; rintro e w' ⟨rfl, rfl⟩))
    go_ret
    exact ⟨retI (by rw [HC.out]), rfl⟩
  · by_cases h2 : y < x
    · have HC := Lib.hid (show cmpI x y = 1 by unfold cmpI; rw [if_neg h1, if_pos h2])
      go_enter Tryd.func61, Tryd.ntmps61
      go_wp2_with (first | (go_at_call 82; refine (nan82 _ _).mono ?_; rintro e w' ⟨rfl, rfl⟩))
      go_ret
      exact ⟨retI (by rw [HC.out]), rfl⟩
    · have HC := Lib.hid (show cmpI x y = 0 by unfold cmpI; rw [if_neg h1, if_neg h2])
      go_enter Tryd.func61, Tryd.ntmps61
      go_wp2_with (first | (go_at_call 82; refine (nan82 _ _).mono ?_; rintro e w' ⟨rfl, rfl⟩))
      go_ret
      exact ⟨retI (by rw [HC.out]), rfl⟩
/-- v is a slice of the units l in w -/
def UAt (w : World) (v : Value) (l : List Int) : Prop :=
  ∃ (p : Option Addr) (cap : Nat), v = .slice p l.length cap ∧ ∀ k x, l[k]? = some x → ∃ g o, p = some ⟨g, o, none⟩ ∧ g < w.heap.size ∧ w.cell? ⟨g, o + k, none⟩ = some (.int .u16 x)
theorem UAt.below {w w' : World} {v : Value} {l : List Int} (h : UAt w v l) (hb : Below w.heap.size w w') : UAt w' v l := by
  obtain ⟨p, cap, hv, hc⟩ := h
  refine ⟨p, cap, hv, fun k x hk => ?_⟩
  obtain ⟨g, o, hp, hg, hx⟩ := hc k x hk
  exact ⟨g, o, hp, Nat.lt_of_lt_of_le hg hb.size, (hb.cell (p := ⟨g, o + k, none⟩) hg).trans hx⟩
/-- one list of units beside another one -/
def cmpU : List Int → List Int → Int
  | [], [] => 0
  | [], _ :: _ => -1
  | _ :: _, [] => 1
  | a :: l, b :: m => if a < b then -1 else if b < a then 1 else cmpU l m
theorem cmpU_drop {A B : List Int} {k : Nat} (ha : k < A.length) (hb : k < B.length) : cmpU (A.drop k) (B.drop k) = (if cmpI A[k] B[k] = 0 then cmpU (A.drop (k + 1)) (B.drop (k + 1)) else cmpI A[k] B[k]) := by
  rw [List.drop_eq_getElem_cons ha, List.drop_eq_getElem_cons hb, cmpU]
  unfold cmpI
  by_cases h1 : A[k] < B[k]
  · rw [if_pos h1, if_pos h1, if_neg (by decide)]
  · by_cases h2 : B[k] < A[k]
    · rw [if_neg h1, if_pos h2, if_neg h1, if_pos h2, if_neg (by decide)]
    · rw [if_neg h1, if_neg h2, if_neg h1, if_neg h2, if_pos rfl]
theorem cmpU_left {A B : List Int} {k : Nat} (ha : k < A.length) (hb : ¬ k < B.length) : cmpU (A.drop k) (B.drop k) = 1 := by
  have h := List.drop_eq_nil_of_le (show B.length ≤ k by omega)
  rw [h, List.drop_eq_getElem_cons ha]; rfl
theorem cmpU_right {A B : List Int} {k : Nat} (ha : ¬ k < A.length) : cmpU (A.drop k) (B.drop k) = (if k < B.length then -1 else 0) := by
  rw [List.drop_eq_nil_of_le (by omega)]
  by_cases h : k < B.length
  · rw [List.drop_eq_getElem_cons h, if_pos h]; rfl
  · rw [List.drop_eq_nil_of_le (by omega), if_neg h]; rfl
set_option maxHeartbeats 2000000 in
set_option maxRecDepth 100000 in
theorem scompare (va vb : Value) (A B : List Int) (hma : A.length ≤ 140737488355328) (hmb : B.length ≤ 140737488355328) (w : World) (h1 : UAt w va A) (h2 : UAt w vb B) :
    Calls Tryd.prog 41 #[va, vb] w fun e w' => e = .returned (.int .i64 (cmpU A B)) ∧ w = w' := by
  obtain ⟨p, ca, rfl, hA⟩ := h1
  obtain ⟨q, cb, rfl, hB⟩ := h2
  have HA := Lib.hid hA
  have HB := Lib.hid hB
  clear hA hB
  obtain ⟨n, hn⟩ : ∃ n, B.length = n := ⟨_, rfl⟩
  obtain ⟨m, hm⟩ : ∃ m, A.length = m := ⟨_, rfl⟩
  have HN := Lib.hid (And.intro hm hn)
  rw [hm] at hma ⊢
  rw [hn] at hmb ⊢
  clear hm hn
  go_enter Tryd.func41, Tryd.ntmps41
  go_wp2_with fail
  go_loopw [11] (fun i wr => ∃ k : Nat, k ≤ m ∧ k ≤ n ∧ i = .int .i64 k ∧ Hid (cmpU A B = cmpU (A.drop k) (B.drop k)) ∧ wr = w) (fun i _ => m - (intOf i).toNat)
  case atStart => exact ⟨0, by omega, by omega, rfl, Lib.hid rfl, rfl⟩
  case round =>
    obtain ⟨k, hk, hkn, rfl, HE, rfl⟩ := hrel
    by_cases hlt : k < m
    · have hlt' : k < A.length := by rw [HN.out.1]; exact hlt
      obtain ⟨g, o, rfl, hg, hx⟩ := HA.out k A[k] (List.getElem?_eq_getElem hlt')
      have i1 : (k : Int) < (m : Int) := by omega
      by_cases hlb : k < n
      · have hlb' : k < B.length := by rw [HN.out.2]; exact hlb
        obtain ⟨g2, o2, rfl, hg2, hx2⟩ := HB.out k B[k] (List.getElem?_eq_getElem hlb')
        have i2 : (k : Int) < (n : Int) := by omega
        have i3 : ¬ (n : Int) ≤ (k : Int) := by omega
        have HD := Lib.hid (cmpU_drop hlt' hlb')
        generalize A[k] = x at *
        generalize B[k] = y at *
        clear hlt' hlb'
        go_wp2_with fail
        refine (compare61 x y _).mono ?_
        rintro e w' ⟨rfl, rfl⟩
        by_cases hc : cmpI x y = 0
        · have HC := Lib.hid hc
          rw [hc] at HD ⊢
          clear hc
          go_wp2
          go_roundw
          case rel => exact ⟨k + 1, by omega, by omega, by go_num, Lib.hid (by rw [HE.out, HD.out]; simp), trivial⟩
          case measure => simp [intOf]; omega
        · have HC := Lib.hid (show cmpU A B = cmpI x y by rw [HE.out, HD.out, if_neg hc])
          have g1 : (cmpI x y != 0) = true := by simp [hc]
          generalize cmpI x y = c at *
          go_wp2
          go_ret
          exact ⟨retI HC.out.symm, rfl⟩
      · have i3 : (n : Int) ≤ (k : Int) := by omega
        have HC := Lib.hid (show cmpU A B = 1 by rw [HE.out, cmpU_left hlt' (by rw [HN.out.2]; exact hlb)])
        go_wp2
        go_ret
        exact ⟨retI HC.out.symm, rfl⟩
    · have HC := Lib.hid (show cmpU A B = if k < n then -1 else 0 by rw [HE.out, cmpU_right (by rw [HN.out.1]; exact hlt), HN.out.2])
      have hkm : k = m := by omega
      subst hkm
      by_cases hlb : k < n
      · have i3 : (k : Int) < (n : Int) := by omega
        rw [if_pos hlb] at HC
        go_wp2
        go_ret
        exact ⟨retI HC.out.symm, rfl⟩
      · have i3 : ¬ (k : Int) < (n : Int) := by omega
        rw [if_neg hlb] at HC
        go_wp2
        go_ret
        exact ⟨retI HC.out.symm, rfl⟩
set_option maxHeartbeats 1000000 in
theorem cmp40 (n1 v1 n2 v2 : ByteArray) (ua ub : Value) (A B : List Int) (hma : A.length ≤ 140737488355328) (hmb : B.length ≤ 140737488355328) (w : World) (h1 : UAt w ua A) (h2 : UAt w ub B) :
    Calls Tryd.prog 40 #[.agg #[.string n1, .string v1, ua], .agg #[.string n2, .string v2, ub]] w fun e w' => e = .returned (.int .i64 (cmpU A B)) ∧ Below w.heap.size w w' := by
  have hb1 := bnew w (.cells #[.string n1, .string v1, ua] 67)
  have hb2 := hb1.alloc (by simp) (.cells #[.string n2, .string v2, ub] 67)
  have HB2 := Lib.hid hb2
  have HC := Lib.hid (scompare ua ub A B hma hmb _ (h1.below hb2) (h2.below hb2))
  obtain ⟨pa, ca, rfl, _⟩ := h1
  obtain ⟨pb, cb, rfl, _⟩ := h2
  clear hb1 hb2
  go_enter Tryd.func40, Tryd.ntmps40
  go_wp2_with fail
  refine HC.out.mono ?_
  rintro e w' ⟨rfl, rfl⟩
  go_wp2
  go_ret
  exact ⟨rfl, HB2.out⟩
end Go.Proofs.YtnjnhgeafbofkaaDoor
