/-
  The document's name.
-/
import Derived.Test.YtempmmkdppelaaaGreatDoorV3M
namespace Go.Proofs.YtempmmkdppelaaaGreatDoor
open Go.RowKit
/-- how many bytes of a host's name a text begins with; g: there is a byte of a label ahead of it -/
def nmGo : List UInt8 → Bool → Nat
  | [], _ => 0
  | b :: r, g => if plainB [45, 95] b = true then nmGo r true + 1 else if b = 46 ∧ g = true then nmGo r false + 1 else 0
/-- what name answers -/
def rname (l : List UInt8) : Int := if nmGo l false = 0 ∨ l[nmGo l false]? = some 46 then -1 else (nmGo l false : Nat)
theorem nm_plain {l : List UInt8} {k : Nat} {b : UInt8} {g : Bool} (hb : l[k]? = some b) (h : plainB [45, 95] b = true) : nmGo (l.drop k) g = 1 + nmGo (l.drop (k + 1)) true := by
  rw [drop_cons hb, nmGo, if_pos h, Nat.add_comm]
theorem nm_dot {l : List UInt8} {k : Nat} {b : UInt8} {g : Bool} (hb : l[k]? = some b) (h : plainB [45, 95] b = false) (h1 : b = 46) (hg : g = true) : nmGo (l.drop k) g = 1 + nmGo (l.drop (k + 1)) false := by
  rw [drop_cons hb, nmGo, if_neg (by rw [h]; simp), if_pos ⟨h1, hg⟩, Nat.add_comm]
theorem nm_stop {l : List UInt8} {k : Nat} {b : UInt8} {g : Bool} (hb : l[k]? = some b) (h : plainB [45, 95] b = false) (h1 : ¬ (b = 46 ∧ g = true)) : nmGo (l.drop k) g = 0 := by
  rw [drop_cons hb, nmGo, if_neg (by rw [h]; simp), if_neg h1]
theorem nm_end {l : List UInt8} {k : Nat} {g : Bool} (h : l.length ≤ k) : nmGo (l.drop k) g = 0 := by rw [List.drop_of_length_le h]; rfl
set_option maxHeartbeats 4000000 in
set_option maxRecDepth 100000 in
theorem rname_is (s : ByteArray) (hs : s.size ≤ 2097152) (r : Int) (hr : rname s.data.toList = r) (w : World) : Calls Tryz.prog 75 #[.string s] w fun e w' => e = .returned (.int .i64 r) ∧ w' = w := by
  have HR := Lib.hid hr
  clear hr
  go_enter Tryz.func75, Tryz.ntmps75
  go_wp2_with fail
  go_loopw [3, 4] (fun i lv wr => ∃ k L : Nat, k ≤ s.size ∧ L ≤ k ∧ i = .int .i64 k ∧ lv = .int .i64 L ∧ Hid (nmGo s.data.toList false = k + nmGo (s.data.toList.drop k) (decide (0 < L))) ∧ wr = w) (fun i _ _ => s.size - (intOf i).toNat)
  case atStart => exact ⟨0, 0, by omega, by omega, rfl, rfl, Lib.hid (by simp), rfl⟩
  case round =>
    obtain ⟨k, L, hk, hL, rfl, rfl, HE, rfl⟩ := hrel
    by_cases hlt : k < s.size
    · have i1 : (k : Int) < (s.size : Int) := by omega
      have i2 : decide ((k : Int) < (s.size : Int)) = true := decide_eq_true i1
      have i3 : decide (k < s.size) = true := decide_eq_true hlt
      have e0 : s.data.toList[k]? = some s[k] := by rw [getT (by rw [Ks.len_list]; omega)]; rfl
      have HP := Lib.hid (show plainB [45, 95] s[k] = true → nmGo s.data.toList false = (k + 1 : Nat) + nmGo (s.data.toList.drop (k + 1)) (decide (0 < L + 1)) from fun h => by
        rw [HE.out, nm_plain e0 h, decide_eq_true (show 0 < L + 1 by omega)]; omega)
      have HDT := Lib.hid (show plainB [45, 95] s[k] = false → s[k] = 46 → 0 < L → nmGo s.data.toList false = (k + 1 : Nat) + nmGo (s.data.toList.drop (k + 1)) (decide (0 < 0)) from fun h h1 h2 => by
        rw [HE.out, nm_dot e0 h h1 (decide_eq_true h2), decide_eq_false (show ¬ 0 < 0 by omega)]; omega)
      have HST := Lib.hid (show plainB [45, 95] s[k] = false → ¬ (s[k] = 46 ∧ 0 < L) → nmGo s.data.toList false = k from fun h h1 => by
        rw [HE.out, nm_stop e0 h (fun h2 => h1 ⟨h2.1, of_decide_eq_true h2.2⟩)]; omega)
      have HRN := Lib.hid (show nmGo s.data.toList false = k → r = if k = 0 ∨ s[k] = 46 then -1 else (k : Int) from fun h => by
        rw [← HR.out]; unfold rname
        rw [h, e0]; simp only [Option.some.injEq])
      clear HE e0
      cases h1 : letB s[k] with
      | true =>
        have HL := Lib.hid (fun W : World => rletter_is s[k] true h1 W)
        have HD := HL
        have HN := Lib.hid (HP.out (plain_l h1))
        clear HP HDT HST HRN h1
        go_wp2_with (first | (go_at_call 73; refine (HL.out _).mono ?_; rintro e w1 ⟨rfl, rfl⟩) | (go_at_call 74; refine (HD.out _).mono ?_; rintro e w1 ⟨rfl, rfl⟩))
        go_roundw
        case rel => exact ⟨k + 1, L + 1, by omega, by omega, by go_num, by go_num, HN, trivial⟩
        case measure => simp [intOf]; omega
      | false =>
        have HL := Lib.hid (fun W : World => rletter_is s[k] false h1 W)
        cases h2 : digB s[k] with
        | true =>
          have HD := Lib.hid (fun W : World => rdigit_is s[k] true h2 W)
          have HN := Lib.hid (HP.out (plain_d h2))
          clear HP HDT HST HRN h1 h2
          go_wp2_with (first | (go_at_call 73; refine (HL.out _).mono ?_; rintro e w1 ⟨rfl, rfl⟩) | (go_at_call 74; refine (HD.out _).mono ?_; rintro e w1 ⟨rfl, rfl⟩))
          go_roundw
          case rel => exact ⟨k + 1, L + 1, by omega, by omega, by go_num, by go_num, HN, trivial⟩
          case measure => simp [intOf]; omega
        | false =>
          have HD := Lib.hid (fun W : World => rdigit_is s[k] false h2 W)
          by_cases c0 : s[k] = 45
          · have q0 := byte_eq 45 rfl c0
            have HN := Lib.hid (HP.out (plain_c (by rw [c0]; rfl)))
            clear HP HDT HST HRN h1 h2 c0
            go_wp2_with (first | (go_at_call 73; refine (HL.out _).mono ?_; rintro e w1 ⟨rfl, rfl⟩) | (go_at_call 74; refine (HD.out _).mono ?_; rintro e w1 ⟨rfl, rfl⟩))
            go_roundw
            case rel => exact ⟨k + 1, L + 1, by omega, by omega, by go_num, by go_num, HN, trivial⟩
            case measure => simp [intOf]; omega
          have q0 := byte_ne 45 rfl c0
          by_cases c1 : s[k] = 95
          · have q1 := byte_eq 95 rfl c1
            have HN := Lib.hid (HP.out (plain_c (by rw [c1]; rfl)))
            clear HP HDT HST HRN h1 h2 c0 c1
            go_wp2_with (first | (go_at_call 73; refine (HL.out _).mono ?_; rintro e w1 ⟨rfl, rfl⟩) | (go_at_call 74; refine (HD.out _).mono ?_; rintro e w1 ⟨rfl, rfl⟩))
            go_roundw
            case rel => exact ⟨k + 1, L + 1, by omega, by omega, by go_num, by go_num, HN, trivial⟩
            case measure => simp [intOf]; omega
          have q1 := byte_ne 95 rfl c1
          have hpl : plainB [45, 95] s[k] = false := plain_no h1 h2 (by simp [c0, c1])
          by_cases c2 : s[k] = 46
          · have q2 := byte_eq 46 rfl c2
            by_cases hL0 : 0 < L
            · have a1 : (0 : Int) < (L : Int) := by omega
              have a2 : decide ((0 : Int) < (L : Int)) = true := decide_eq_true a1
              have a3 : decide (0 < L) = true := decide_eq_true hL0
              have HN := Lib.hid (HDT.out hpl c2 hL0)
              clear HP HDT HST HRN h1 h2 c0 c1 c2 hpl
              go_wp2_with (first | (go_at_call 73; refine (HL.out _).mono ?_; rintro e w1 ⟨rfl, rfl⟩) | (go_at_call 74; refine (HD.out _).mono ?_; rintro e w1 ⟨rfl, rfl⟩))
              go_roundw
              case rel => exact ⟨k + 1, 0, by omega, by omega, by go_num, by go_num, HN, trivial⟩
              case measure => simp [intOf]; omega
            · have a1 : ¬ (0 : Int) < (L : Int) := by omega
              have a2 : decide ((0 : Int) < (L : Int)) = false := decide_eq_false a1
              have a3 : decide (0 < L) = false := decide_eq_false hL0
              have HF := Lib.hid (show r = -1 from by rw [HRN.out (HST.out hpl (fun h => hL0 h.2)), if_pos (.inr c2)])
              clear HP HDT HST HRN h1 h2 c0 c1 c2 hpl hL0
              cases hk0 : ((k : Int) == 0) with
              | true =>
                go_wp2_with (first | (go_at_call 73; refine (HL.out _).mono ?_; rintro e w1 ⟨rfl, rfl⟩) | (go_at_call 74; refine (HD.out _).mono ?_; rintro e w1 ⟨rfl, rfl⟩))
                go_ret
                exact ⟨ret_int HF.out.symm, rfl⟩
              | false =>
                go_wp2_with (first | (go_at_call 73; refine (HL.out _).mono ?_; rintro e w1 ⟨rfl, rfl⟩) | (go_at_call 74; refine (HD.out _).mono ?_; rintro e w1 ⟨rfl, rfl⟩))
                go_ret
                exact ⟨ret_int HF.out.symm, rfl⟩
          have q2 := byte_ne 46 rfl c2
          have hst := HST.out hpl (fun h => c2 h.1)
          cases hk0 : ((k : Int) == 0) with
          | true =>
            have HF := Lib.hid (show r = -1 from by rw [HRN.out hst, if_pos (.inl (by have := beq_iff_eq.1 hk0; omega))])
            clear HP HDT HST HRN h1 h2 c0 c1 c2 hpl hst
            go_wp2_with (first | (go_at_call 73; refine (HL.out _).mono ?_; rintro e w1 ⟨rfl, rfl⟩) | (go_at_call 74; refine (HD.out _).mono ?_; rintro e w1 ⟨rfl, rfl⟩))
            go_ret
            exact ⟨ret_int HF.out.symm, rfl⟩
          | false =>
            have HF := Lib.hid (show r = k from by rw [HRN.out hst, if_neg (fun h => by rcases h with h | h; exact (beq_eq_false_iff_ne.1 hk0) (by omega); exact c2 h)])
            clear HP HDT HST HRN h1 h2 c0 c1 c2 hpl hst
            go_wp2_with (first | (go_at_call 73; refine (HL.out _).mono ?_; rintro e w1 ⟨rfl, rfl⟩) | (go_at_call 74; refine (HD.out _).mono ?_; rintro e w1 ⟨rfl, rfl⟩))
            go_ret
            exact ⟨ret_int HF.out.symm, rfl⟩
    · have i1 : ¬ (k : Int) < (s.size : Int) := by omega
      have i2 : decide ((k : Int) < (s.size : Int)) = false := decide_eq_false i1
      have i3 : decide (k < s.size) = false := decide_eq_false hlt
      have hst : nmGo s.data.toList false = k := by rw [HE.out, nm_end (by rw [Ks.len_list]; omega)]; omega
      have hnone : s.data.toList[k]? = none := List.getElem?_eq_none (by rw [Ks.len_list]; omega)
      have hR := HR.out
      unfold rname at hR
      rw [hst, hnone] at hR
      cases hk0 : ((k : Int) == 0) with
      | true =>
        have HF := Lib.hid (show r = -1 from by rw [← hR, if_pos (.inl (by have := beq_iff_eq.1 hk0; omega))])
        clear HE hst hR hnone
        go_wp2_with fail
        go_ret
        exact ⟨ret_int HF.out.symm, rfl⟩
      | false =>
        have HF := Lib.hid (show r = k from by rw [← hR, if_neg (fun h => by rcases h with h | h; exact (beq_eq_false_iff_ne.1 hk0) (by omega); cases h)])
        clear HE hst hR hnone
        go_wp2_with fail
        go_ret
        exact ⟨ret_int HF.out.symm, rfl⟩
end Go.Proofs.YtempmmkdppelaaaGreatDoor
