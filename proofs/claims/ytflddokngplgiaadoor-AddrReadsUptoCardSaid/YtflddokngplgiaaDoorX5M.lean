import Derived.Test.YtflddokngplgiaaDoorX4M
namespace Go.Proofs.YtflddokngplgiaaDoor
open Go.RowKit
/-- a byte's number, as the document's answer takes it -/
def dgt (b : Nat) : Nat := if 48 ≤ b ∧ b ≤ 57 then b - 48 else if 97 ≤ b ∧ b ≤ 102 then b - 87 else if 65 ≤ b ∧ b ≤ 70 then b - 55 else 99
theorem u8x (n : Nat) (h : n < 256) : IntKind.u8.wrap (n : Int) = (n : Int) := by
  simp [IntKind.wrap, show IntKind.u8.signed = false from rfl, show IntKind.u8.bits = 8 from rfl]; omega
theorem ret_u64 {a b : Int} (h : a = b) : Ending.returned (.int .u64 a) = .returned (.int .u64 b) := by rw [h]
set_option maxHeartbeats 1000000 in
set_option maxRecDepth 100000 in
theorem dgt_is (b : Nat) (hb : b < 256) (w : World) :
    Calls Tryd.prog 40 #[.int .u8 b] w fun e w' => e = .returned (.int .u64 (dgt b)) ∧ Below w.heap.size w w' := by
  by_cases h1 : 48 ≤ b ∧ b ≤ 57
  · obtain ⟨d, hd⟩ : ∃ d, dgt b = d := ⟨_, rfl⟩
    have e : b - 48 = d := by rw [← hd]; exact (if_pos h1).symm
    have k1 : IntKind.u8.wrap ((b : Int) - 48) = (d : Int) := by have := u8x d (by omega); rw [← this]; congr 1; omega
    have k3 : IntKind.u64.wrap (d : Int) = (d : Int) := u64w d (by omega)
    rw [hd]
    obtain ⟨c1, c2⟩ := h1
    clear hd e
    go_enter Tryd.func40, Tryd.ntmps40
    go_wp2_with fail
    go_ret
    exact ⟨rfl, Below.refl _ _⟩
  by_cases h2 : 97 ≤ b ∧ b ≤ 102
  · obtain ⟨d, hd⟩ : ∃ d, dgt b = d := ⟨_, rfl⟩
    obtain ⟨f, hf⟩ : ∃ f, b - 97 = f := ⟨_, rfl⟩
    have e : b - 87 = d := by rw [← hd, dgt, if_neg h1, if_pos h2]
    have k1 : IntKind.u8.wrap ((b : Int) - 97) = (f : Int) := by have := u8x f (by omega); rw [← this]; congr 1; omega
    have k2 : IntKind.u64.wrap ((f : Int) + 10) = (d : Int) := by have := u64w d (by omega); rw [← this]; congr 1; omega
    have k3 : IntKind.u64.wrap (f : Int) = (f : Int) := u64w f (by omega)
    rw [hd]
    obtain ⟨c1, c2⟩ := h2
    have c3 : ¬ b ≤ 57 := by omega
    have c4 : 48 ≤ b := by omega
    clear hd e hf h1
    go_enter Tryd.func40, Tryd.ntmps40
    go_wp2_with fail
    go_ret
    exact ⟨rfl, Below.refl _ _⟩
  by_cases h3 : 65 ≤ b ∧ b ≤ 70
  · obtain ⟨d, hd⟩ : ∃ d, dgt b = d := ⟨_, rfl⟩
    obtain ⟨f, hf⟩ : ∃ f, b - 65 = f := ⟨_, rfl⟩
    have e : b - 55 = d := by rw [← hd, dgt, if_neg h1, if_neg h2, if_pos h3]
    have k1 : IntKind.u8.wrap ((b : Int) - 65) = (f : Int) := by have := u8x f (by omega); rw [← this]; congr 1; omega
    have k2 : IntKind.u64.wrap ((f : Int) + 10) = (d : Int) := by have := u64w d (by omega); rw [← this]; congr 1; omega
    have k3 : IntKind.u64.wrap (f : Int) = (f : Int) := u64w f (by omega)
    rw [hd]
    obtain ⟨c1, c2⟩ := h3
    have c3 : ¬ b ≤ 57 := by omega
    have c4 : 48 ≤ b := by omega
    have c5 : ¬ 97 ≤ b := by omega
    clear hd e hf h1 h2
    go_enter Tryd.func40, Tryd.ntmps40
    go_wp2_with fail
    go_ret
    exact ⟨rfl, Below.refl _ _⟩
  · have e : dgt b = 99 := by rw [dgt, if_neg h1, if_neg h2, if_neg h3]
    rw [e]
    clear e
    by_cases a1 : 48 ≤ b
    · have c3 : ¬ b ≤ 57 := by omega
      by_cases a2 : 97 ≤ b
      · have c4 : ¬ b ≤ 102 := by omega
        have c5 : 65 ≤ b := by omega
        have c6 : ¬ b ≤ 70 := by omega
        clear h1 h2 h3
        go_enter Tryd.func40, Tryd.ntmps40
        go_wp2_with fail
        go_ret
        exact ⟨rfl, Below.refl _ _⟩
      · by_cases a3 : 65 ≤ b
        · have c6 : ¬ b ≤ 70 := by omega
          clear h1 h2 h3
          go_enter Tryd.func40, Tryd.ntmps40
          go_wp2_with fail
          go_ret
          exact ⟨rfl, Below.refl _ _⟩
        · clear h1 h2 h3
          go_enter Tryd.func40, Tryd.ntmps40
          go_wp2_with fail
          go_ret
          exact ⟨rfl, Below.refl _ _⟩
    · have a2 : ¬ 97 ≤ b := by omega
      have a3 : ¬ 65 ≤ b := by omega
      clear h1 h2 h3
      go_enter Tryd.func40, Tryd.ntmps40
      go_wp2_with fail
      go_ret
      exact ⟨rfl, Below.refl _ _⟩
end Go.Proofs.YtflddokngplgiaaDoor
