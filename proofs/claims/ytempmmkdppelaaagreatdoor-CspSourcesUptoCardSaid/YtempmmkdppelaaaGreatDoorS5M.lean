/-
  csp's marked.
-/
import Derived.Test.YtempmmkdppelaaaGreatDoorS1M
namespace Go.Proofs.YtempmmkdppelaaaGreatDoor
open Go.RowKit
/-- what stands between marks, behind a beginning -/
def markedP (s beg : List UInt8) : Option (List UInt8) :=
  let i1 := Lib.trimPrefix s [39]
  let i2 := Lib.trimSuffix i1 [39]
  if Lib.hasPrefix s [39] = true ∧ Lib.hasSuffix i1 [39] = true ∧ beg.length ≤ i2.length ∧ sameB (i2.take beg.length) beg = true then some (i2.drop beg.length) else none
def optS (m : Option (List UInt8)) : Value := .string ⟨(m.getD []).toArray⟩
set_option maxHeartbeats 2000000 in
theorem marked_is (s beg : ByteArray) (hs : s.size ≤ 2097152) (hb : beg.size ≤ 2097152) (m : Option (List UInt8)) (hm : markedP s.data.toList beg.data.toList = m) (w : World) :
    Calls Tryz.prog 87 #[.string s, .string beg] w fun e w' => e = .returned (.tuple #[optS m, .bool m.isSome]) ∧ Below w.heap.size w w' := by
  have hP := Tryz.strings_CutPrefix s ⟨#[39]⟩ w
  unfold markedP at hm
  simp only [Ks.len_list] at hm
  obtain ⟨t1, ht1⟩ : ∃ t : ByteArray, t = ⟨(Lib.trimPrefix s.data.toList [39]).toArray⟩ := ⟨_, rfl⟩
  have e1 : Lib.trimPrefix s.data.toList [39] = t1.data.toList := by rw [ht1]
  rw [show (⟨#[39]⟩ : ByteArray).data.toList = [39] from rfl, ← ht1] at hP
  rw [e1] at hm
  have hl1 : t1.size ≤ s.size := by
    rw [← Ks.len_list, ← e1, ← Ks.len_list]; unfold Lib.trimPrefix; split
    · rw [List.length_drop]; omega
    · exact Nat.le_refl _
  have hS := Tryz.strings_CutSuffix t1 ⟨#[39]⟩ w (by omega)
  obtain ⟨t2, ht2⟩ : ∃ t : ByteArray, t = ⟨(Lib.trimSuffix t1.data.toList [39]).toArray⟩ := ⟨_, rfl⟩
  have e2 : Lib.trimSuffix t1.data.toList [39] = t2.data.toList := by rw [ht2]
  rw [show (⟨#[39]⟩ : ByteArray).data.toList = [39] from rfl, ← ht2] at hS
  rw [e2, Ks.len_list] at hm
  have hl2 : t2.size ≤ t1.size := by
    rw [← Ks.len_list, ← e2, ← Ks.len_list]; unfold Lib.trimSuffix; split
    · rw [List.length_take]; omega
    · exact Nat.le_refl _
  obtain ⟨p, hp⟩ : ∃ p, Lib.hasPrefix s.data.toList [39] = p := ⟨_, rfl⟩
  obtain ⟨q, hq⟩ : ∃ q, Lib.hasSuffix t1.data.toList [39] = q := ⟨_, rfl⟩
  rw [hp] at hP hm
  rw [hq] at hS hm
  have HP := Lib.hid hP
  have HS := Lib.hid hS
  clear hP hS ht1 ht2 e1 e2 hp hq
  cases p with
  | false =>
    rw [if_neg (fun h => by cases h.1)] at hm
    subst hm
    go_enter Tryz.func87, Tryz.ntmps87
    go_wp2_with (first | (go_at_call 99; refine HP.out.mono ?_; rintro e w1 ⟨rfl, rfl⟩) | (go_at_call 89; refine HS.out.mono ?_; rintro e w1 ⟨rfl, rfl⟩))
    exact bodyPost_ret (v := .tuple #[.string ⟨#[]⟩, .bool false]) (by simp [results, Tryz.results87, go_sem]) rfl ⟨rfl, Below.refl _ _⟩
  | true =>
    cases q with
    | false =>
      rw [if_neg (fun h => by cases h.2.1)] at hm
      subst hm
      go_enter Tryz.func87, Tryz.ntmps87
      go_wp2_with (first | (go_at_call 99; refine HP.out.mono ?_; rintro e w1 ⟨rfl, rfl⟩) | (go_at_call 89; refine HS.out.mono ?_; rintro e w1 ⟨rfl, rfl⟩))
      exact bodyPost_ret (v := .tuple #[.string ⟨#[]⟩, .bool false]) (by simp [results, Tryz.results87, go_sem]) rfl ⟨rfl, Below.refl _ _⟩
    | true =>
      by_cases hlt : t2.size < beg.size
      · have g1 : decide ((t2.size : Int) < (beg.size : Int)) = true := decide_eq_true (by omega)
        rw [if_neg (fun h => by have := h.2.2.1; omega)] at hm
        subst hm
        go_enter Tryz.func87, Tryz.ntmps87
        go_wp2_with (first | (go_at_call 99; refine HP.out.mono ?_; rintro e w1 ⟨rfl, rfl⟩) | (go_at_call 89; refine HS.out.mono ?_; rintro e w1 ⟨rfl, rfl⟩))
        exact bodyPost_ret (v := .tuple #[.string ⟨#[]⟩, .bool false]) (by simp [results, Tryz.results87, go_sem]) rfl ⟨rfl, Below.refl _ _⟩
      · have g1 : decide ((t2.size : Int) < (beg.size : Int)) = false := decide_eq_false (by omega)
        have g2 : beg.size ≤ t2.size := by omega
        have e3 : (t2.extract 0 beg.size).data.toList = t2.data.toList.take beg.size := Ks.ext_take _ _
        have e4 : t2.extract beg.size t2.size = ⟨(t2.data.toList.drop beg.size).toArray⟩ := by apply ByteArray.ext; apply Array.toList_inj.1; rw [Ks.ext_drop]
        have hz : (t2.extract 0 beg.size).size ≤ maxLen := by rw [← Ks.len_list, e3, List.length_take]; unfold maxLen; omega
        have HQ := Lib.hid (same_any (t2.extract 0 beg.size) beg hz (by unfold maxLen; omega) w)
        rw [e3] at HQ
        obtain ⟨x, hx⟩ : ∃ x, sameB (t2.data.toList.take beg.size) beg.data.toList = x := ⟨_, rfl⟩
        rw [hx] at HQ hm
        clear hx e3 hz
        cases x with
        | false =>
          rw [if_neg (fun h => by cases h.2.2.2)] at hm
          subst hm
          go_enter Tryz.func87, Tryz.ntmps87
          go_wp2_with (first | (go_at_call 99; refine HP.out.mono ?_; rintro e w1 ⟨rfl, rfl⟩) | (go_at_call 89; refine HS.out.mono ?_; rintro e w1 ⟨rfl, rfl⟩) | (go_at_call 100; refine HQ.out.mono ?_; rintro e w1 ⟨rfl, hb1⟩))
          exact bodyPost_ret (v := .tuple #[.string ⟨#[]⟩, .bool false]) (by simp [results, Tryz.results87, go_sem]) rfl ⟨rfl, hb1⟩
        | true =>
          rw [if_pos ⟨rfl, rfl, g2, rfl⟩] at hm
          subst hm
          go_enter Tryz.func87, Tryz.ntmps87
          go_wp2_with (first | (go_at_call 99; refine HP.out.mono ?_; rintro e w1 ⟨rfl, rfl⟩) | (go_at_call 89; refine HS.out.mono ?_; rintro e w1 ⟨rfl, rfl⟩) | (go_at_call 100; refine HQ.out.mono ?_; rintro e w1 ⟨rfl, hb1⟩))
          exact bodyPost_ret (v := .tuple #[.string ⟨(t2.data.toList.drop beg.size).toArray⟩, .bool true]) (by simp [results, Tryz.results87, go_sem, e4]) rfl ⟨rfl, hb1⟩
end Go.Proofs.YtempmmkdppelaaaGreatDoor
