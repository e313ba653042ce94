/-
  The document's marked and Keyword.
-/
import Derived.Test.YtempmmkdppelaaaGreatDoorR6M
namespace Go.Proofs.YtempmmkdppelaaaGreatDoor
open Go.RowKit
theorem byte_nf {x c : UInt8} (n : Int) (hn : ((c.toNat : Nat) : Int) = n) (h : x = c) : (((x.toNat : Nat) : Int) != n) = false := by subst h; simp [hn]
theorem byte_nt {x c : UInt8} (n : Int) (hn : ((c.toNat : Nat) : Int) = n) (h : ¬ x = c) : (((x.toNat : Nat) : Int) != n) = true := bne_iff_ne.2 fun e => h (UInt8.toNat_inj.1 (by omega))
/-- what stands between marks -/
def refM (s : List UInt8) : Option (List UInt8) := if 2 ≤ s.length ∧ s[0]? = some 39 ∧ s[s.length - 1]? = some 39 then some ((s.drop 1).take (s.length - 2)) else none
theorem ext_tl (s : ByteArray) (f k : Nat) : (s.extract f k).data.toList = (s.data.toList.take k).drop f := by rw [ext_mk]; rfl
set_option maxHeartbeats 2000000 in
theorem rmarked_is (s : ByteArray) (hs : s.size ≤ 2097152) (w : World) :
    Calls Tryz.prog 70 #[.string s] w fun e w' => e = .returned (.tuple #[.string (mkB ((refM s.data.toList).getD [])), .bool (refM s.data.toList).isSome]) ∧ w' = w := by
  have hl : s.data.toList.length = s.size := Ks.len_list s
  by_cases h2 : s.size < 2
  · have g1 : decide ((s.size : Int) < 2) = true := decide_eq_true (by omega)
    have g2 : decide (s.size < 2) = true := decide_eq_true h2
    have HM := Lib.hid (show refM s.data.toList = none from if_neg (by omega))
    rw [HM.out]
    clear hl
    go_enter Tryz.func70, Tryz.ntmps70
    go_wp2
    go_ret2
    exact ⟨rfl, rfl⟩
  · have g1 : decide ((s.size : Int) < 2) = false := decide_eq_false (by omega)
    have g2 : decide (s.size < 2) = false := decide_eq_false h2
    have h0 : 0 < s.size := by omega
    have hn : s.size - 1 < s.size := by omega
    have e0 : s.data.toList[0]? = some s[0] := by rw [getT (by omega)]; rfl
    have e1 : s.data.toList[s.size - 1]? = some s[s.size - 1] := by rw [getT (by omega)]; rfl
    have i0 : (0 : Int) ≤ (s.size : Int) - 1 := by omega
    have i1 : ((s.size : Int) - 1).toNat = s.size - 1 := by omega
    by_cases h3 : s[0] = 39
    · have g3 := byte_nf 39 rfl h3
      by_cases h4 : s[s.size - 1] = 39
      · have g4 := byte_nf 39 rfl h4
        have HM := Lib.hid (show refM s.data.toList = some ((s.data.toList.drop 1).take (s.data.toList.length - 2)) from if_pos ⟨by omega, by rw [e0, h3], by rw [hl, e1, h4]⟩)
        have HX := Lib.hid (show s.extract 1 (s.size - 1) = mkB ((s.data.toList.drop 1).take (s.data.toList.length - 2)) from by
          rw [ext_mk, List.drop_take, hl, show s.size - 1 - 1 = s.size - 2 by omega])
        rw [HM.out]
        clear hl e0 e1 h3 h4
        go_enter Tryz.func70, Tryz.ntmps70
        go_wp2
        go_ret2
        exact ⟨by rw [HX.out]; rfl, rfl⟩
      · have g4 := byte_nt 39 rfl h4
        have HM := Lib.hid (show refM s.data.toList = none from if_neg (fun h => by have := h.2.2; rw [hl, e1] at this; exact h4 (Option.some.inj this)))
        rw [HM.out]
        clear hl e0 e1 h3 h4
        go_enter Tryz.func70, Tryz.ntmps70
        go_wp2
        go_ret2
        exact ⟨rfl, rfl⟩
    · have g3 := byte_nt 39 rfl h3
      have HM := Lib.hid (show refM s.data.toList = none from if_neg (fun h => by have := h.2.1; rw [e0] at this; exact h3 (Option.some.inj this)))
      rw [HM.out]
      clear hl e0 e1 h3
      go_enter Tryz.func70, Tryz.ntmps70
      go_wp2
      go_ret2
      exact ⟨rfl, rfl⟩
end Go.Proofs.YtempmmkdppelaaaGreatDoor
