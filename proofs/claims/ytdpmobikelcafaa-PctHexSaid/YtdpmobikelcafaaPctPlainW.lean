/-
  The walk of bastionlaw01.PctPlain: it answers true for every text within the form's reach, and changes nothing that was there.
-/
import Derived.Test.YtdpmobikelcafaaLive1
namespace Go.Proofs.Ytdpmobikelcafaa
open Go.RowKit M
theorem dec_le (l : List UInt8) : (dec l).length ≤ l.length := by
  match l with
  | [] => exact Nat.le_refl _
  | [c] => exact Nat.le_refl _
  | [c, d] => exact Nat.le_refl _
  | c :: h :: l :: r =>
    rw [dec]
    split
    · have := dec_le r; simp only [List.length_cons]; omega
    · have := dec_le (h :: l :: r); simp only [List.length_cons] at this ⊢; omega
theorem dec_plain (l : List UInt8) (h : ∀ c ∈ l, ¬ c = 37) : dec l = l := by
  match l, h with
  | [], _ => rfl
  | [c], _ => rfl
  | [c, d], _ => rfl
  | c :: d :: e :: r, h =>
    rw [dec, if_neg (fun hh => h c (by simp) hh.1), dec_plain (d :: e :: r) (fun x hx => h x (List.mem_cons_of_mem _ hx))]
set_option maxHeartbeats 1000000 in
theorem PctPlain_walk (t : ByteArray) (ht : t.size ≤ 140737488351232) (w : World) :
    Calls Try.prog 9 #[.string t] w fun e w' => e = .returned (.bool true) ∧ Below w.heap.size w w' := by
  have hdl : (dec t.data.toList).length ≤ t.size := by have := dec_le t.data.toList; simpa using this
  have HP := Lib.hid (dec_plain t.data.toList)
  obtain ⟨D, HD⟩ : ∃ D, Hid (dec t.data.toList = D) := ⟨_, Lib.hid rfl⟩
  rw [HD.out] at hdl HP
  go_enter Try.func9, Try.ntmps9
  go_wp2_with fail
  refine (lives_any _).mono ?_
  rintro e w1 ⟨rfl, hb1⟩
  go_wp2_with fail
  refine (decode_any t (by omega) _).mono ?_
  rintro e w2 ⟨rfl, hb2⟩
  rw [HD.out]
  have hbel := Lib.hid (bel hb1 hb2 (Nat.le_refl _))
  clear hb1 hb2
  go_wp2
  go_loop [4] (fun i => ∃ k : Nat, k ≤ t.size ∧ i = .int .i64 k ∧ Hid (∀ c ∈ t.data.toList.take k, ¬ c = 37)) (fun i => t.size - (intOf i).toNat)
  case atStart => exact ⟨0, by omega, rfl, Lib.hid (by simp)⟩
  case round =>
    obtain ⟨k, hk, rfl, HK⟩ := hrel
    by_cases hlt : k < t.size
    · by_cases h37 : t[k] = 37
      · have z0 : ((t[k].toNat : Int) == 37) = true := by rw [h37]; rfl
        clear h37
        go_wp2
        go_ret
        exact ⟨rfl, hbel.out⟩
      · have z0 : ((t[k].toNat : Int) == 37) = false := by
          rw [beq_eq_false_iff_ne]; intro e; exact h37 (UInt8.toNat_inj.1 (by show _ = 37; omega))
        have HS := Lib.hid (show ∀ c ∈ t.data.toList.take (k + 1), ¬ c = 37 by
          intro c hc
          rw [take_snoc _ _ (by simpa using hlt)] at hc
          rcases List.mem_append.1 hc with h | h
          · exact HK.out c h
          · have : c = t[k] := List.mem_singleton.1 h
            rw [this]; exact h37)
        clear h37
        go_wp2
        go_round
        case rel => exact ⟨k + 1, by omega, by go_num, HS⟩
        case measure => simp [intOf]; omega
    · have HE := Lib.hid (show D = t.data.toList from HP.out (by have := HK.out; rwa [List.take_of_length_le (by simp; omega)] at this))
      go_wp2
      go_ret
      exact ⟨by rw [show (Ending.returned (.bool true)) = Ending.returned (.bool (D == t.data.toList)) from ret_bool (by rw [HE.out]; simp), ← ByteArray.toList_eq]; rfl, hbel.out⟩
end Go.Proofs.Ytdpmobikelcafaa
