/-
  The contract of query's read: what a text of at most 65536 bytes is read as; nothing that was there is changed.
-/
import Derived.Test.YtikdncmgppckfaaDoorF1
namespace Go.Proofs.YtikdncmgppckfaaDoor
open Go.RowKit
theorem dec_len (n : Nat) : ∀ l : List UInt8, l.length ≤ n → (M.dec l).length ≤ l.length := by
  induction n with
  | zero => intro l hl; have : l = [] := List.eq_nil_of_length_eq_zero (by omega); subst this; exact Nat.le_refl _
  | succ n ih =>
    intro l hl
    cases l with
    | nil => exact Nat.le_refl _
    | cons c r =>
      simp only [List.length_cons] at hl
      cases h : M.escL (c :: r) with
      | none =>
        rw [M.dec_none h]
        have := ih r (by omega)
        simp only [List.length_cons]; omega
      | some v =>
        obtain ⟨h3, e⟩ := M.dec_some h
        rw [e]
        have := ih ((c :: r).drop 3) (by simp only [List.length_drop, List.length_cons] at h3 ⊢; omega)
        simp only [List.length_cons, List.length_drop] at this h3 ⊢
        omega
/-- what a text is read as -/
def rdT (l : List UInt8) : List UInt8 := U.scal (M.dec (rpl [43] [32] l))
set_option maxHeartbeats 1000000 in
theorem read_is (s : ByteArray) (T : List UInt8) (hT : rdT s.data.toList = T) (hs : s.size ≤ 65536) (w : World) (hM : ML w) :
    Calls Tryd.prog 31 #[.string s] w fun e w' => e = .returned (.string ⟨T.toArray⟩) ∧ Below w.heap.size w w' := by
  obtain ⟨m, hm⟩ := hM
  obtain ⟨A, hA⟩ : ∃ A, rpl [43] [32] s.data.toList = A := ⟨_, rfl⟩
  obtain ⟨D, hD⟩ : ∃ D, M.dec A = D := ⟨_, rfl⟩
  have hAl : A.length ≤ 65536 := by
    have := rpl_len [43] [32] s.data.toList (by simp)
    rw [hA, len_list] at this; omega
  have hDl : D.length ≤ 65536 := by
    have := dec_len A.length A (Nat.le_refl _)
    rw [hD] at this; omega
  have HR := Lib.hid (replaceAll_is s ⟨#[43]⟩ ⟨#[32]⟩ A hA m w (by omega) hm (by decide) (by decide) (by decide))
  have HAz := Lib.hid (show (⟨A.toArray⟩ : ByteArray).size ≤ 65536 by show A.toArray.size ≤ _; simp; omega)
  have HDz := Lib.hid (show (⟨D.toArray⟩ : ByteArray).size ≤ 65536 by show D.toArray.size ≤ _; simp; omega)
  have H52 := Lib.hid (show ∀ w1, Calls Tryd.prog 52 #[.string ⟨A.toArray⟩] w1 fun e w' => e = .returned (.string ⟨D.toArray⟩) ∧ Below w1.heap.size w1 w' from fun w1 => by
    have := decode_any ⟨A.toArray⟩ (by have := HAz.out; omega) w1
    rw [show (⟨A.toArray⟩ : ByteArray).data.toList = A by simp, hD] at this
    exact this)
  have HT := Lib.hid (show U.scal (⟨D.toArray⟩ : ByteArray).data.toList = T by rw [← hT, rdT, hA, hD])
  clear hT hA hD hm
  go_enter Tryd.func31, Tryd.ntmps31
  go_wp2_with fail
  refine HR.out.mono ?_
  rintro e w1 ⟨rfl, hb1⟩
  have HB1 := Lib.hid hb1
  clear hb1
  go_wp2_with fail
  refine (H52.out _).mono ?_
  rintro e w2 ⟨rfl, hb2⟩
  have HB2 := Lib.hid (bel2 HB1.out hb2)
  clear hb2
  go_wp2_with fail
  refine (scalar_is ⟨D.toArray⟩ T HT.out (by have := HDz.out; omega) w2).mono ?_
  rintro e w3 ⟨rfl, hb3⟩
  go_wp2
  go_ret
  exact ⟨rfl, bel2 HB2.out hb3⟩
end Go.Proofs.YtikdncmgppckfaaDoor
