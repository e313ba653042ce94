import Derived.Test.YthdodmbopchfdaaRS
namespace Go.Proofs.Ythdodmbopchfdaa
open Go.RowKit P
attribute [local go_sem ↓] Go.wp_at_zero Go.wp_at_succ
def lastH (u : ByteArray) : Int := Lib.lastIndexByte u 45
def plainL (u : ByteArray) : List UInt8 := u.data.toList.take (lastH u).toNat
def numsL (u : ByteArray) : List UInt8 := u.data.toList.drop (lastH u + 1).toNat
def toInts (l : List UInt8) : List Int := l.map fun c => (c.toNat : Int)
/-- what Decode answers: runes and an error's number -/
def decS (u : ByteArray) : List Int × Int :=
  if 4096 < u.size then ([], 4)
  else if ∃ c ∈ plainL u, 128 ≤ c.toNat then ([], 9)
  else dec (numsL u).length (numsL u) 128 0 72 (toInts (plainL u))
theorem lastH_bd (u : ByteArray) : -1 ≤ lastH u ∧ lastH u < u.size := by
  rcases Lib.lastIndexByte_spec u 45 with ⟨h, _⟩ | ⟨i, hi, h, _⟩
  · unfold lastH; rw [h]; omega
  · unfold lastH; rw [h]; omega
theorem extract_take (s : ByteArray) (k : Nat) : (s.extract 0 k).data.toList = s.data.toList.take k := by
  simp only [ByteArray.data_extract, Array.toList_extract, List.extract_eq_take_drop]
  simp
set_option maxHeartbeats 1000000 in
theorem cut_is (u : ByteArray) (hu : u.size ≤ 4096) (w : World) :
    Calls Try.prog 19 #[.string u] w fun e w' => ∃ p n : ByteArray, e = .returned (.tuple #[.string p, .string n]) ∧ p.data.toList = plainL u ∧ n.data.toList = numsL u ∧ Below w.heap.size w w' := by
  have hb := lastH_bd u
  by_cases h : 0 ≤ lastH u
  · obtain ⟨k, hk⟩ : ∃ k : Nat, lastH u = k := ⟨(lastH u).toNat, by omega⟩
    have HP : Hid (plainL u = u.data.toList.take k) := Lib.hid (by unfold plainL; rw [hk, Int.toNat_natCast])
    have HN : Hid (numsL u = u.data.toList.drop (k + 1)) := Lib.hid (by unfold numsL; rw [hk]; rfl)
    rw [hk] at hb
    have hks : k < u.size := by omega
    have HK := Lib.hid hk
    have s1 : IntKind.i64.wrap ((k : Int) + 1) = (k : Int) + 1 := IntWalk.i64_in _ (by omega)
    have s2 : (0 : Int) ≤ (k : Int) + 1 := by omega
    have s3 : ((k : Int) + 1).toNat = k + 1 := by omega
    have s4 : (k : Int) + 1 ≤ (u.size : Int) := by omega
    have s5 : (0 : Int) ≤ (k : Int) := by omega
    have s6 : (k : Int) ≤ (u.size : Int) := by omega
    clear hk h
    go_enter Try.func19, Try.ntmps19
    go_wp2_with fail
    refine (Try.strings_LastIndexByte u 45 (by omega) _).mono ?_
    rintro e w1 ⟨he, hw⟩
    have he2 : e = .returned (.int .i64 k) := by rw [he]; exact congrArg _ (congrArg _ HK.out)
    subst he2 hw
    clear he
    go_wp2_with fail
    go_quiet (fail)
    go_wp2
    go_ret2
    exact ⟨_, _, rfl, by rw [HP.out]; exact extract_take u k, by rw [HN.out]; exact extract_list u (k + 1), below_dn (Below.refl _ _) _⟩
  · have hk : lastH u = -1 := by omega
    have HP : Hid (plainL u = []) := Lib.hid (by unfold plainL; rw [hk]; rfl)
    have HN : Hid (numsL u = u.data.toList) := Lib.hid (by unfold numsL; rw [hk]; rfl)
    have HK := Lib.hid hk
    clear hk h hb
    go_enter Try.func19, Try.ntmps19
    go_wp2_with fail
    refine (Try.strings_LastIndexByte u 45 (by omega) _).mono ?_
    rintro e w1 ⟨he, hw⟩
    have he2 : e = .returned (.int .i64 (-1)) := by rw [he]; exact congrArg _ (congrArg _ HK.out)
    subst he2 hw
    clear he
    go_wp2
    go_ret2
    exact ⟨_, _, rfl, HP.out.symm, HN.out.symm, Below.refl _ _⟩
end Go.Proofs.Ythdodmbopchfdaa
