/-
  The document's Keyword, coded, scheme.
-/
import Derived.Test.YtempmmkdppelaaaGreatDoorV2M
namespace Go.Proofs.YtempmmkdppelaaaGreatDoor
open Go.RowKit
theorem str_eqL (a b : ByteArray) : (a.toList == b.toList) = (b.toList == a.data.toList) := by rw [Lib.toList_data a]; exact Bool.beq_comm
set_option maxHeartbeats 2000000 in
set_option maxRecDepth 100000 in
theorem rkeyword_is (s : ByteArray) (r : Bool) (hr : keywordB s = r) (w : World) : Calls Tryz.prog 71 #[.string s] w fun e w' => e = .returned (.bool r) ∧ Below w.heap.size w w' := by
  obtain ⟨X, hX⟩ : ∃ X, w.alloc (.cells #[.string ⟨#[115, 101, 108, 102]⟩, .string ⟨#[110, 111, 110, 101]⟩, .string ⟨#[117, 110, 115, 97, 102, 101, 45, 105, 110, 108, 105, 110, 101]⟩, .string ⟨#[117, 110, 115, 97, 102, 101, 45, 101, 118, 97, 108]⟩, .string ⟨#[115, 116, 114, 105, 99, 116, 45, 100, 121, 110, 97, 109, 105, 99]⟩, .string ⟨#[117, 110, 115, 97, 102, 101, 45, 104, 97, 115, 104, 101, 115]⟩, .string ⟨#[114, 101, 112, 111, 114, 116, 45, 115, 97, 109, 112, 108, 101]⟩, .string ⟨#[119, 97, 115, 109, 45, 117, 110, 115, 97, 102, 101, 45, 101, 118, 97, 108]⟩] 9) = X := ⟨_, rfl⟩
  have HB := Lib.hid (show Below w.heap.size w X from hX ▸ bnew w _)
  have HC := Lib.hid (show ∀ k x, kwL[k]? = some x → X.cell? ⟨w.heap.size, k, none⟩ = some (.string x) from by
    intro k x hx
    have h := Has.new w (.cells #[.string ⟨#[115, 101, 108, 102]⟩, .string ⟨#[110, 111, 110, 101]⟩, .string ⟨#[117, 110, 115, 97, 102, 101, 45, 105, 110, 108, 105, 110, 101]⟩, .string ⟨#[117, 110, 115, 97, 102, 101, 45, 101, 118, 97, 108]⟩, .string ⟨#[115, 116, 114, 105, 99, 116, 45, 100, 121, 110, 97, 109, 105, 99]⟩, .string ⟨#[117, 110, 115, 97, 102, 101, 45, 104, 97, 115, 104, 101, 115]⟩, .string ⟨#[114, 101, 112, 111, 114, 116, 45, 115, 97, 109, 112, 108, 101]⟩, .string ⟨#[119, 97, 115, 109, 45, 117, 110, 115, 97, 102, 101, 45, 101, 118, 97, 108]⟩] 9)
    rw [hX] at h
    match k, hx with
    | 0, hx => cases hx; exact h.cell 0 rfl
    | 1, hx => cases hx; exact h.cell 1 rfl
    | 2, hx => cases hx; exact h.cell 2 rfl
    | 3, hx => cases hx; exact h.cell 3 rfl
    | 4, hx => cases hx; exact h.cell 4 rfl
    | 5, hx => cases hx; exact h.cell 5 rfl
    | 6, hx => cases hx; exact h.cell 6 rfl
    | 7, hx => cases hx; exact h.cell 7 rfl
    | k + 8, hx => simp [kwL] at hx)
  have HR := Lib.hid hr
  have HLN := Lib.hid (show kwL.length = 8 from rfl)
  clear hr
  go_enter Tryz.func71, Tryz.ntmps71
  go_wp2_with fail
  clear hX
  go_loopw [7] (fun i wr => ∃ k : Nat, k ≤ 8 ∧ i = .int .i64 k ∧ Hid (∀ (j : Nat) x, j < k → kwL[j]? = some x → (s.toList == x.data.toList) = false) ∧ wr = X) (fun i _ => 8 - (intOf i).toNat)
  case atStart => exact ⟨0, by omega, rfl, Lib.hid (fun j x hj => by omega), rfl⟩
  case round =>
    obtain ⟨k, hk, rfl, HE, rfl⟩ := hrel
    by_cases hlt : k < 8
    · have i1 : (k : Int) < 8 := by omega
      have hkl : k < kwL.length := hlt
      have hx := HC.out k kwL[k] (getT hkl)
      have HT := Lib.hid (show (kwL[k].toList == s.toList) = true → r = true from fun h => by
        rw [← HR.out]; unfold keywordB
        rw [str_eqL] at h
        exact List.any_eq_true.2 ⟨kwL[k], List.getElem_mem hkl, h⟩)
      have HNX := Lib.hid (show (kwL[k].toList == s.toList) = false → ∀ (j : Nat) x, j < k + 1 → kwL[j]? = some x → (s.toList == x.data.toList) = false from fun h j x hj hxj => by
        by_cases hjk : j = k
        · subst hjk; rw [getT hkl] at hxj; cases hxj; rw [str_eqL] at h; exact h
        · exact HE.out j x (by omega) hxj)
      clear HE
      generalize kwL[k] = x at *
      clear hkl
      cases hq : (x.toList == s.toList) with
      | true =>
        have HF := Lib.hid (HT.out hq)
        clear HT HNX
        go_wp2_with fail
        go_ret
        exact ⟨ret_bool HF.out.symm, HB.out⟩
      | false =>
        have HN := Lib.hid (HNX.out hq)
        clear HT HNX
        go_wp2_with fail
        go_roundw
        case rel => exact ⟨k + 1, by omega, by go_num, HN, trivial⟩
        case measure => simp [intOf]; omega
    · have i1 : ¬ (k : Int) < 8 := by omega
      have HF := Lib.hid (show r = false from by
        rw [← HR.out]; unfold keywordB
        rw [List.any_eq_false]
        intro x hx
        obtain ⟨j, hj, rfl⟩ := List.getElem_of_mem hx
        have hj8 : j < 8 := hj
        rw [HE.out j kwL[j] (by omega) (getT hj)]; simp)
      go_wp2_with fail
      go_ret
      exact ⟨ret_bool HF.out.symm, HB.out⟩
/-- how many of a kind a text begins with -/
theorem tw_len {P : UInt8 → Bool} : ∀ {l : List UInt8} {k : Nat}, (∀ (j : Nat) x, j < k → l[j]? = some x → P x = true) → (k = l.length ∨ ∃ x, l[k]? = some x ∧ P x = false) → (l.takeWhile P).length = k
  | [], k, _, h => by
    rcases h with rfl | ⟨x, h, _⟩
    · rfl
    · simp at h
  | b :: l, 0, _, h => by
    rcases h with h | ⟨x, h, hx⟩
    · simp at h
    · simp at h; subst h; rw [List.takeWhile_cons, hx]; rfl
  | b :: l, k + 1, h1, h => by
    rw [List.takeWhile_cons, h1 0 b (by omega) rfl]
    simp only [if_true, List.length_cons]
    rw [tw_len (l := l) (k := k) (fun j x hj hx => h1 (j + 1) x (by omega) (by simpa using hx))]
    rcases h with h | ⟨x, h, hx⟩
    · left; simpa using h
    · right; exact ⟨x, by simpa using h, hx⟩
theorem plain_no {more : List UInt8} {b : UInt8} (h1 : letB b = false) (h2 : digB b = false) (h3 : more.contains b = false) : plainB more b = false := by unfold plainB; rw [h1, h2, h3]; rfl
theorem plain_l {more : List UInt8} {b : UInt8} (h1 : letB b = true) : plainB more b = true := by unfold plainB; rw [h1]; rfl
theorem plain_d {more : List UInt8} {b : UInt8} (h1 : digB b = true) : plainB more b = true := by unfold plainB; rw [h1, Bool.or_true]; rfl
theorem plain_c {more : List UInt8} {b : UInt8} (h1 : more.contains b = true) : plainB more b = true := by unfold plainB; rw [h1, Bool.or_true]
/-- what coded answers -/
def rcodeB (l : List UInt8) : Bool := decide (0 < (l.takeWhile (plainB [43, 47, 45, 95])).length) && (decide (l.drop (l.takeWhile (plainB [43, 47, 45, 95])).length = []) || decide (l.drop (l.takeWhile (plainB [43, 47, 45, 95])).length = [61]) || decide (l.drop (l.takeWhile (plainB [43, 47, 45, 95])).length = [61, 61]))
/-- what scheme answers -/
def rsch (l : List UInt8) : Nat := if (match l with | [] => false | b :: _ => letB b) = true then (l.takeWhile (plainB [43, 45, 46])).length else 0
theorem ext_dl (s : ByteArray) (k : Nat) : (s.extract k s.size).toList = s.data.toList.drop k := by
  have := Lib.extract_toList s k s.size
  rw [this, List.take_of_length_le (by rw [List.length_drop, Ks.len_list]; omega)]

set_option maxHeartbeats 4000000 in
set_option maxRecDepth 100000 in
theorem rcoded_is (s : ByteArray) (hs : s.size ≤ 2097152) (r : Bool) (hr : rcodeB s.data.toList = r) (w : World) : Calls Tryz.prog 72 #[.string s] w fun e w' => e = .returned (.bool r) ∧ w' = w := by
  have HR := Lib.hid hr
  clear hr
  go_enter Tryz.func72, Tryz.ntmps72
  go_wp2_with fail
  go_loopw [3] (fun i wr => ∃ k : Nat, k ≤ s.size ∧ i = .int .i64 k ∧ Hid (∀ (j : Nat) x, j < k → s.data.toList[j]? = some x → plainB [43, 47, 45, 95] x = true) ∧ wr = w) (fun i _ => s.size - (intOf i).toNat)
  case atStart => exact ⟨0, by omega, rfl, Lib.hid (fun j x hj => by omega), rfl⟩
  case round =>
    obtain ⟨k, hk, rfl, HE, rfl⟩ := hrel
    by_cases hlt : k < s.size
    · have i1 : (k : Int) < (s.size : Int) := by omega
      have i2 : decide ((k : Int) < (s.size : Int)) = true := decide_eq_true i1
      have i3 : decide (k < s.size) = true := decide_eq_true hlt
      have e0 : s.data.toList[k]? = some s[k] := by rw [getT (by rw [Ks.len_list]; omega)]; rfl
      have HNX := Lib.hid (show plainB [43, 47, 45, 95] s[k] = true → ∀ (j : Nat) x, j < k + 1 → s.data.toList[j]? = some x → plainB [43, 47, 45, 95] x = true from fun h j x hj hx => by
        by_cases hjk : j = k
        · subst hjk; rw [e0] at hx; cases hx; exact h
        · exact HE.out j x (by omega) hx)
      have HST := Lib.hid (show plainB [43, 47, 45, 95] s[k] = false → (s.data.toList.takeWhile (plainB [43, 47, 45, 95])).length = k from fun h => tw_len HE.out (.inr ⟨_, e0, h⟩))
      clear HE e0
      cases h1 : letB s[k] with
      | true =>
        have HL := Lib.hid (fun W : World => rletter_is s[k] true h1 W)
        have HN := Lib.hid (HNX.out (plain_l h1))
        clear HNX HST h1
        go_wp2_with (go_at_call 73; refine (HL.out _).mono ?_; rintro e w1 ⟨rfl, rfl⟩)
        go_roundw
        case rel => exact ⟨k + 1, by omega, by go_num, HN, trivial⟩
        case measure => simp [intOf]; omega
      | false =>
        have HL := Lib.hid (fun W : World => rletter_is s[k] false h1 W)
        cases h2 : digB s[k] with
        | true =>
          have HD := Lib.hid (fun W : World => rdigit_is s[k] true h2 W)
          have HN := Lib.hid (HNX.out (plain_d h2))
          clear HNX HST h1 h2
          go_wp2_with (first | (go_at_call 73; refine (HL.out _).mono ?_; rintro e w1 ⟨rfl, rfl⟩) | (go_at_call 74; refine (HD.out _).mono ?_; rintro e w1 ⟨rfl, rfl⟩))
          go_roundw
          case rel => exact ⟨k + 1, by omega, by go_num, HN, trivial⟩
          case measure => simp [intOf]; omega
        | false =>
          have HD := Lib.hid (fun W : World => rdigit_is s[k] false h2 W)
          by_cases c0 : s[k] = 43
          · have q0 := byte_eq 43 rfl c0
            have HN := Lib.hid (HNX.out (plain_c (by rw [c0]; rfl)))
            clear HNX HST h1 h2 c0
            go_wp2_with (first | (go_at_call 73; refine (HL.out _).mono ?_; rintro e w1 ⟨rfl, rfl⟩) | (go_at_call 74; refine (HD.out _).mono ?_; rintro e w1 ⟨rfl, rfl⟩))
            go_roundw
            case rel => exact ⟨k + 1, by omega, by go_num, HN, trivial⟩
            case measure => simp [intOf]; omega
          have q0 := byte_ne 43 rfl c0
          by_cases c1 : s[k] = 47
          · have q1 := byte_eq 47 rfl c1
            have HN := Lib.hid (HNX.out (plain_c (by rw [c1]; rfl)))
            clear HNX HST h1 h2 c0 c1
            go_wp2_with (first | (go_at_call 73; refine (HL.out _).mono ?_; rintro e w1 ⟨rfl, rfl⟩) | (go_at_call 74; refine (HD.out _).mono ?_; rintro e w1 ⟨rfl, rfl⟩))
            go_roundw
            case rel => exact ⟨k + 1, by omega, by go_num, HN, trivial⟩
            case measure => simp [intOf]; omega
          have q1 := byte_ne 47 rfl c1
          by_cases c2 : s[k] = 45
          · have q2 := byte_eq 45 rfl c2
            have HN := Lib.hid (HNX.out (plain_c (by rw [c2]; rfl)))
            clear HNX HST h1 h2 c0 c1 c2
            go_wp2_with (first | (go_at_call 73; refine (HL.out _).mono ?_; rintro e w1 ⟨rfl, rfl⟩) | (go_at_call 74; refine (HD.out _).mono ?_; rintro e w1 ⟨rfl, rfl⟩))
            go_roundw
            case rel => exact ⟨k + 1, by omega, by go_num, HN, trivial⟩
            case measure => simp [intOf]; omega
          have q2 := byte_ne 45 rfl c2
          by_cases c3 : s[k] = 95
          · have q3 := byte_eq 95 rfl c3
            have HN := Lib.hid (HNX.out (plain_c (by rw [c3]; rfl)))
            clear HNX HST h1 h2 c0 c1 c2 c3
            go_wp2_with (first | (go_at_call 73; refine (HL.out _).mono ?_; rintro e w1 ⟨rfl, rfl⟩) | (go_at_call 74; refine (HD.out _).mono ?_; rintro e w1 ⟨rfl, rfl⟩))
            go_roundw
            case rel => exact ⟨k + 1, by omega, by go_num, HN, trivial⟩
            case measure => simp [intOf]; omega
          have q3 := byte_ne 95 rfl c3
          have HK := Lib.hid (HST.out (plain_no h1 h2 (by simp [c0, c1, c2, c3])))
          clear HNX HST h1 h2 c0 c1 c2 c3
          have HR2 := Lib.hid (show (decide (0 < k) && (decide (s.data.toList.drop k = []) || decide (s.data.toList.drop k = [61]) || decide (s.data.toList.drop k = [61, 61]))) = r from by
            have := HR.out
            unfold rcodeB at this
            rw [HK.out] at this; exact this)
          rw [← ext_dl] at HR2
          generalize hE : s.extract k s.size = E at *
          clear HK HR
          have z1 : k ≤ s.size := hk
          have z2 : (k : Int) ≤ (s.size : Int) := by omega
          by_cases hk0 : 0 < k
          · have a1 : (0 : Int) < (k : Int) := by omega
            have a2 : decide ((0 : Int) < (k : Int)) = true := decide_eq_true a1
            have a3 : decide (0 < k) = true := decide_eq_true hk0
            rw [a3, Bool.true_and] at HR2
            by_cases b0 : E.toList = []
            · have v0 : (E.toList == []) = true := beq_iff_eq.2 b0
              have HF := Lib.hid (show r = true from by rw [← HR2.out, b0]; decide)
              clear HR2 b0
              go_wp2_with (first | (go_at_call 73; refine (HL.out _).mono ?_; rintro e w1 ⟨rfl, rfl⟩) | (go_at_call 74; refine (HD.out _).mono ?_; rintro e w1 ⟨rfl, rfl⟩))
              go_ret
              exact ⟨ret_bool HF.out.symm, rfl⟩
            have v0 : (E.toList == []) = false := beq_eq_false_iff_ne.2 b0
            by_cases b1 : E.toList = [61]
            · have v1 : (E.toList == [61]) = true := beq_iff_eq.2 b1
              have HF := Lib.hid (show r = true from by rw [← HR2.out, b1]; decide)
              clear HR2 b0 b1
              go_wp2_with (first | (go_at_call 73; refine (HL.out _).mono ?_; rintro e w1 ⟨rfl, rfl⟩) | (go_at_call 74; refine (HD.out _).mono ?_; rintro e w1 ⟨rfl, rfl⟩))
              go_ret
              exact ⟨ret_bool HF.out.symm, rfl⟩
            have v1 : (E.toList == [61]) = false := beq_eq_false_iff_ne.2 b1
            by_cases b2 : E.toList = [61, 61]
            · have v2 : (E.toList == [61, 61]) = true := beq_iff_eq.2 b2
              have HF := Lib.hid (show r = true from by rw [← HR2.out, b2]; decide)
              clear HR2 b0 b1 b2
              go_wp2_with (first | (go_at_call 73; refine (HL.out _).mono ?_; rintro e w1 ⟨rfl, rfl⟩) | (go_at_call 74; refine (HD.out _).mono ?_; rintro e w1 ⟨rfl, rfl⟩))
              go_ret
              exact ⟨ret_bool HF.out.symm, rfl⟩
            have v2 : (E.toList == [61, 61]) = false := beq_eq_false_iff_ne.2 b2
            have HF := Lib.hid (show r = false from by rw [← HR2.out, decide_eq_false b0, decide_eq_false b1, decide_eq_false b2]; rfl)
            clear HR2 b0 b1 b2
            go_wp2_with (first | (go_at_call 73; refine (HL.out _).mono ?_; rintro e w1 ⟨rfl, rfl⟩) | (go_at_call 74; refine (HD.out _).mono ?_; rintro e w1 ⟨rfl, rfl⟩))
            go_ret
            exact ⟨ret_bool HF.out.symm, rfl⟩
          · have a1 : ¬ (0 : Int) < (k : Int) := by omega
            have a2 : decide ((0 : Int) < (k : Int)) = false := decide_eq_false a1
            have a3 : decide (0 < k) = false := decide_eq_false hk0
            have HF := Lib.hid (show r = false from by rw [← HR2.out, a3]; rfl)
            clear HR2 hk0
            go_wp2_with (first | (go_at_call 73; refine (HL.out _).mono ?_; rintro e w1 ⟨rfl, rfl⟩) | (go_at_call 74; refine (HD.out _).mono ?_; rintro e w1 ⟨rfl, rfl⟩))
            go_ret
            exact ⟨ret_bool HF.out.symm, rfl⟩
    · have i1 : ¬ (k : Int) < (s.size : Int) := by omega
      have i2 : decide ((k : Int) < (s.size : Int)) = false := decide_eq_false i1
      have i3 : decide (k < s.size) = false := decide_eq_false hlt
      have HK := Lib.hid (show (s.data.toList.takeWhile (plainB [43, 47, 45, 95])).length = k from tw_len HE.out (.inl (by rw [Ks.len_list]; omega)))
      clear HE
      have HR2 := Lib.hid (show (decide (0 < k) && (decide (s.data.toList.drop k = []) || decide (s.data.toList.drop k = [61]) || decide (s.data.toList.drop k = [61, 61]))) = r from by
        have := HR.out
        unfold rcodeB at this
        rw [HK.out] at this; exact this)
      rw [← ext_dl] at HR2
      generalize hE : s.extract k s.size = E at *
      clear HK HR
      have z1 : k ≤ s.size := hk
      have z2 : (k : Int) ≤ (s.size : Int) := by omega
      by_cases hk0 : 0 < k
      · have a1 : (0 : Int) < (k : Int) := by omega
        have a2 : decide ((0 : Int) < (k : Int)) = true := decide_eq_true a1
        have a3 : decide (0 < k) = true := decide_eq_true hk0
        rw [a3, Bool.true_and] at HR2
        by_cases b0 : E.toList = []
        · have v0 : (E.toList == []) = true := beq_iff_eq.2 b0
          have HF := Lib.hid (show r = true from by rw [← HR2.out, b0]; decide)
          clear HR2 b0
          go_wp2_with fail
          go_ret
          exact ⟨ret_bool HF.out.symm, rfl⟩
        have v0 : (E.toList == []) = false := beq_eq_false_iff_ne.2 b0
        by_cases b1 : E.toList = [61]
        · have v1 : (E.toList == [61]) = true := beq_iff_eq.2 b1
          have HF := Lib.hid (show r = true from by rw [← HR2.out, b1]; decide)
          clear HR2 b0 b1
          go_wp2_with fail
          go_ret
          exact ⟨ret_bool HF.out.symm, rfl⟩
        have v1 : (E.toList == [61]) = false := beq_eq_false_iff_ne.2 b1
        by_cases b2 : E.toList = [61, 61]
        · have v2 : (E.toList == [61, 61]) = true := beq_iff_eq.2 b2
          have HF := Lib.hid (show r = true from by rw [← HR2.out, b2]; decide)
          clear HR2 b0 b1 b2
          go_wp2_with fail
          go_ret
          exact ⟨ret_bool HF.out.symm, rfl⟩
        have v2 : (E.toList == [61, 61]) = false := beq_eq_false_iff_ne.2 b2
        have HF := Lib.hid (show r = false from by rw [← HR2.out, decide_eq_false b0, decide_eq_false b1, decide_eq_false b2]; rfl)
        clear HR2 b0 b1 b2
        go_wp2_with fail
        go_ret
        exact ⟨ret_bool HF.out.symm, rfl⟩
      · have a1 : ¬ (0 : Int) < (k : Int) := by omega
        have a2 : decide ((0 : Int) < (k : Int)) = false := decide_eq_false a1
        have a3 : decide (0 < k) = false := decide_eq_false hk0
        have HF := Lib.hid (show r = false from by rw [← HR2.out, a3]; rfl)
        clear HR2 hk0
        go_wp2_with fail
        go_ret
        exact ⟨ret_bool HF.out.symm, rfl⟩
set_option maxHeartbeats 4000000 in
set_option maxRecDepth 100000 in
theorem rscheme_is (s : ByteArray) (hs : s.size ≤ 2097152) (r : Nat) (hr : rsch s.data.toList = r) (w : World) : Calls Tryz.prog 52 #[.string s] w fun e w' => e = .returned (.int .i64 r) ∧ w' = w := by
  unfold rsch at hr
  by_cases hn : s.toList = []
  · have g1 : (s.toList == []) = true := beq_iff_eq.2 hn
    have HF := Lib.hid (show r = 0 from by rw [← hr, show s.data.toList = [] from (Lib.toList_data s) ▸ hn]; rfl)
    clear hr hn
    go_enter Tryz.func52, Tryz.ntmps52
    go_wp2_with fail
    go_ret
    exact ⟨ret_int (by rw [HF.out]; rfl), rfl⟩
  have g1 : (s.toList == []) = false := beq_eq_false_iff_ne.2 hn
  have hpos : 0 < s.size := by
    rw [← Ks.len_list]; exact List.length_pos_iff.2 ((Lib.toList_data s) ▸ hn)
  have e0 : s.data.toList[0]? = some s[0] := by rw [getT (by rw [Ks.len_list]; omega)]; rfl
  have hm : (match s.data.toList with | [] => false | b :: _ => letB b) = letB s[0] := by
    cases hl : s.data.toList with
    | nil => exact absurd ((Lib.toList_data s).trans hl) hn
    | cons b l => rw [hl] at e0; simp at e0; rw [e0]
  rw [hm] at hr
  clear hn hm e0
  cases h0 : letB s[0] with
  | false =>
    have HL := Lib.hid (fun W : World => rletter_is s[0] false h0 W)
    have HF := Lib.hid (show r = 0 from by rw [← hr, h0]; rfl)
    clear hr h0
    go_enter Tryz.func52, Tryz.ntmps52
    go_wp2_with (go_at_call 73; refine (HL.out _).mono ?_; rintro e w1 ⟨rfl, rfl⟩)
    go_ret
    exact ⟨ret_int (by rw [HF.out]; rfl), rfl⟩
  | true =>
  have HL0 := Lib.hid (fun W : World => rletter_is s[0] true h0 W)
  rw [h0, if_pos rfl] at hr
  have HR := Lib.hid hr
  clear hr h0
  go_enter Tryz.func52, Tryz.ntmps52
  go_wp2_with (go_at_call 73; refine (HL0.out _).mono ?_; rintro e w1 ⟨rfl, hw⟩; obtain rfl : w = w1 := hw.symm)
  clear HL0
  go_loopw [3] (fun i wr => ∃ k : Nat, k ≤ s.size ∧ i = .int .i64 k ∧ Hid (∀ (j : Nat) x, j < k → s.data.toList[j]? = some x → plainB [43, 45, 46] x = true) ∧ wr = w) (fun i _ => s.size - (intOf i).toNat)
  case atStart => exact ⟨0, by omega, rfl, Lib.hid (fun j x hj => by omega), rfl⟩
  case round =>
    obtain ⟨k, hk, rfl, HE, rfl⟩ := hrel
    by_cases hlt : k < s.size
    · have i1 : (k : Int) < (s.size : Int) := by omega
      have i2 : decide ((k : Int) < (s.size : Int)) = true := decide_eq_true i1
      have i3 : decide (k < s.size) = true := decide_eq_true hlt
      have e0 : s.data.toList[k]? = some s[k] := by rw [getT (by rw [Ks.len_list]; omega)]; rfl
      have HNX := Lib.hid (show plainB [43, 45, 46] s[k] = true → ∀ (j : Nat) x, j < k + 1 → s.data.toList[j]? = some x → plainB [43, 45, 46] x = true from fun h j x hj hx => by
        by_cases hjk : j = k
        · subst hjk; rw [e0] at hx; cases hx; exact h
        · exact HE.out j x (by omega) hx)
      have HST := Lib.hid (show plainB [43, 45, 46] s[k] = false → (s.data.toList.takeWhile (plainB [43, 45, 46])).length = k from fun h => tw_len HE.out (.inr ⟨_, e0, h⟩))
      clear HE e0
      cases h1 : letB s[k] with
      | true =>
        have HL := Lib.hid (fun W : World => rletter_is s[k] true h1 W)
        have HN := Lib.hid (HNX.out (plain_l h1))
        clear HNX HST h1
        go_wp2_with (go_at_call 73; refine (HL.out _).mono ?_; rintro e w1 ⟨rfl, rfl⟩)
        go_roundw
        case rel => exact ⟨k + 1, by omega, by go_num, HN, trivial⟩
        case measure => simp [intOf]; omega
      | false =>
        have HL := Lib.hid (fun W : World => rletter_is s[k] false h1 W)
        cases h2 : digB s[k] with
        | true =>
          have HD := Lib.hid (fun W : World => rdigit_is s[k] true h2 W)
          have HN := Lib.hid (HNX.out (plain_d h2))
          clear HNX HST h1 h2
          go_wp2_with (first | (go_at_call 73; refine (HL.out _).mono ?_; rintro e w1 ⟨rfl, rfl⟩) | (go_at_call 74; refine (HD.out _).mono ?_; rintro e w1 ⟨rfl, rfl⟩))
          go_roundw
          case rel => exact ⟨k + 1, by omega, by go_num, HN, trivial⟩
          case measure => simp [intOf]; omega
        | false =>
          have HD := Lib.hid (fun W : World => rdigit_is s[k] false h2 W)
          by_cases c0 : s[k] = 43
          · have q0 := byte_eq 43 rfl c0
            have HN := Lib.hid (HNX.out (plain_c (by rw [c0]; rfl)))
            clear HNX HST h1 h2 c0
            go_wp2_with (first | (go_at_call 73; refine (HL.out _).mono ?_; rintro e w1 ⟨rfl, rfl⟩) | (go_at_call 74; refine (HD.out _).mono ?_; rintro e w1 ⟨rfl, rfl⟩))
            go_roundw
            case rel => exact ⟨k + 1, by omega, by go_num, HN, trivial⟩
            case measure => simp [intOf]; omega
          have q0 := byte_ne 43 rfl c0
          by_cases c1 : s[k] = 45
          · have q1 := byte_eq 45 rfl c1
            have HN := Lib.hid (HNX.out (plain_c (by rw [c1]; rfl)))
            clear HNX HST h1 h2 c0 c1
            go_wp2_with (first | (go_at_call 73; refine (HL.out _).mono ?_; rintro e w1 ⟨rfl, rfl⟩) | (go_at_call 74; refine (HD.out _).mono ?_; rintro e w1 ⟨rfl, rfl⟩))
            go_roundw
            case rel => exact ⟨k + 1, by omega, by go_num, HN, trivial⟩
            case measure => simp [intOf]; omega
          have q1 := byte_ne 45 rfl c1
          by_cases c2 : s[k] = 46
          · have q2 := byte_eq 46 rfl c2
            have HN := Lib.hid (HNX.out (plain_c (by rw [c2]; rfl)))
            clear HNX HST h1 h2 c0 c1 c2
            go_wp2_with (first | (go_at_call 73; refine (HL.out _).mono ?_; rintro e w1 ⟨rfl, rfl⟩) | (go_at_call 74; refine (HD.out _).mono ?_; rintro e w1 ⟨rfl, rfl⟩))
            go_roundw
            case rel => exact ⟨k + 1, by omega, by go_num, HN, trivial⟩
            case measure => simp [intOf]; omega
          have q2 := byte_ne 46 rfl c2
          have HK := Lib.hid (HST.out (plain_no h1 h2 (by simp [c0, c1, c2])))
          clear HNX HST h1 h2 c0 c1 c2
          have HF := Lib.hid (show r = k from by rw [← HR.out, HK.out])
          clear HK HR
          go_wp2_with (first | (go_at_call 73; refine (HL.out _).mono ?_; rintro e w1 ⟨rfl, rfl⟩) | (go_at_call 74; refine (HD.out _).mono ?_; rintro e w1 ⟨rfl, rfl⟩))
          go_ret
          exact ⟨ret_int (by rw [HF.out]), rfl⟩
    · have i1 : ¬ (k : Int) < (s.size : Int) := by omega
      have i2 : decide ((k : Int) < (s.size : Int)) = false := decide_eq_false i1
      have i3 : decide (k < s.size) = false := decide_eq_false hlt
      have HK := Lib.hid (show (s.data.toList.takeWhile (plainB [43, 45, 46])).length = k from tw_len HE.out (.inl (by rw [Ks.len_list]; omega)))
      clear HE
      have HF := Lib.hid (show r = k from by rw [← HR.out, HK.out])
      clear HK HR
      go_wp2_with fail
      go_ret
      exact ⟨ret_int (by rw [HF.out]), rfl⟩
end Go.Proofs.YtempmmkdppelaaaGreatDoor
