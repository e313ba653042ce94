import Derived.Test.YtamhmpgaapgmbaaDoorA8a
import Derived.Test.YtamhmpgaapgmbaaDoorA8b
import Derived.Test.YtamhmpgaapgmbaaDoorA8c
import Derived.Test.YtamhmpgaapgmbaaDoorA8d
namespace Go.Proofs.YtamhmpgaapgmbaaDoor
open Go.RowKit
theorem v4_is (s : ByteArray) (hs : s.size ≤ 140737488355328) (w : World) (hG : Glob w) :
    Calls Tryd.prog 10 #[.string s] w fun e w' => e = ansE (v4O s.data.toList) ∧ Below w.heap.size w w' := by
  have hne := partsAt_ne 46 (noDot s.data.toList)
  have h1 : (partsAt 46 (noDot s.data.toList)).length ≠ 0 := fun h => hne (List.length_eq_zero_iff.1 h)
  by_cases h : (partsAt 46 (noDot s.data.toList)).length ≤ 4
  · have : (partsAt 46 (noDot s.data.toList)).length = 1 ∨ (partsAt 46 (noDot s.data.toList)).length = 2 ∨ (partsAt 46 (noDot s.data.toList)).length = 3 ∨ (partsAt 46 (noDot s.data.toList)).length = 4 := by omega
    rcases this with h | h | h | h
    · exact v4_1 s hs w hG h
    · exact v4_2 s hs w hG h
    · exact v4_3 s hs w hG h
    · exact v4_4 s hs w hG h
  · exact v4_many s hs w hG h
def lastP (c : UInt8) (l : List UInt8) : List UInt8 := (partsAt c l).getLastD []
theorem lastP_miss (c : UInt8) (l : List UInt8) (h : c ∉ l) : lastP c l = l := by unfold lastP; rw [partsAt_miss c l h]; rfl
theorem partsAt_cons_ne {c b : UInt8} (r : List UInt8) (h : ¬ b = c) : partsAt c (b :: r) = (b :: (partsAt c r).headD []) :: (partsAt c r).tail := by rw [partsAt, if_neg h]
theorem partsAt_tail (c : UInt8) (a r : List UInt8) (h : c ∉ r) : ∃ q, partsAt c (a ++ c :: r) = q ++ [r] ∧ q ≠ [] := by
  induction a with
  | nil => exact ⟨[[]], by rw [List.nil_append, partsAt, if_pos rfl, partsAt_miss c r h]; rfl, by simp⟩
  | cons b a ih =>
    obtain ⟨q, hq, hne⟩ := ih
    by_cases hb : b = c
    · exact ⟨[] :: q, by rw [List.cons_append, partsAt, if_pos hb, hq]; rfl, by simp⟩
    · cases q with
      | nil => exact absurd rfl hne
      | cons x y => exact ⟨(b :: x) :: y, by rw [List.cons_append, partsAt_cons_ne _ hb, hq]; rfl, by simp⟩
theorem lastP_hit (c : UInt8) (a r : List UInt8) (h : c ∉ r) : lastP c (a ++ c :: r) = r := by
  obtain ⟨q, hq, _⟩ := partsAt_tail c a r h
  unfold lastP
  rw [hq, List.getLastD_eq_getLast?, List.getLast?_append]
  rfl
theorem get_bang (s : ByteArray) (j : Nat) (h : j < s.size) : s.data[j]! = s[j] := by
  rw [getElem!_pos s.data j h]; rfl
theorem last_at (s : ByteArray) (c : UInt8) : ∃ j : Nat, Lib.lastIndexByte s c.toNat = (j : Int) - 1 ∧ j ≤ s.size ∧ s.data.toList.drop j = lastP c s.data.toList := by
  have hmem : ∀ j, (∀ i, j ≤ i → i < s.size → ((s.data[i]!).toNat : Int) ≠ (c.toNat : Int)) → c ∉ s.data.toList.drop j := by
    intro j h hm
    obtain ⟨i, hi, he⟩ := List.mem_iff_getElem.1 hm
    have hi' : j + i < s.size := by simp at hi; omega
    rw [List.getElem_drop] at he
    refine h (j + i) (by omega) hi' ?_
    rw [get_bang s _ hi']
    have : s[j + i] = c := he
    rw [this]
  rcases Lib.lastIdx_spec s c.toNat s.size with ⟨h1, h2⟩ | ⟨i, hi, h1, h2, h3⟩
  · refine ⟨0, by unfold Lib.lastIndexByte; rw [h1]; rfl, Nat.zero_le _, ?_⟩
    have := hmem 0 (fun i _ h => h2 i h)
    rw [List.drop_zero] at this ⊢
    exact (lastP_miss c _ this).symm
  · refine ⟨i + 1, by unfold Lib.lastIndexByte; rw [h1]; omega, hi, ?_⟩
    have hd := hmem (i + 1) (fun j hj h => h3 j (by omega) h)
    have hc : s[i] = c := by
      rw [get_bang s _ hi] at h2
      exact UInt8.toNat_inj.1 (by omega)
    have hil : i < s.data.toList.length := by simpa using hi
    have e : s.data.toList = s.data.toList.take i ++ c :: s.data.toList.drop (i + 1) := by
      conv => lhs; rw [← List.take_append_drop i s.data.toList]
      rw [List.drop_eq_getElem_cons hil]
      have : s.data.toList[i] = c := hc
      rw [this]
    conv => rhs; rw [e]
    exact (lastP_hit c _ _ hd).symm
def endsB (l : List UInt8) : Bool := (numO (lastP 46 (noDot l))).isSome || madeL [kDec] (lastP 46 (noDot l))
set_option maxHeartbeats 8000000 in
set_option maxRecDepth 100000 in
theorem ends_is (s : ByteArray) (hs : s.size ≤ 140737488355328) (w : World) (hG : Glob w) :
    Calls Tryd.prog 15 #[.string s] w fun e w' => e = .returned (.bool (endsB s.data.toList)) ∧ Below w.heap.size w w' := by
  have HT := Lib.hid (trim_dot s.data.toList)
  obtain ⟨S, hS⟩ : ∃ S : ByteArray, S = ⟨(noDot s.data.toList).toArray⟩ := ⟨_, rfl⟩
  have hSs : S.size ≤ 140737488355328 := by rw [hS]; exact nd_size s hs
  have hSl : S.data.toList = noDot s.data.toList := by rw [hS]
  obtain ⟨j, hj, hjs, hjl⟩ := last_at S 46
  have HE := Lib.hid (show endsB s.data.toList = ((numO (S.extract j S.size).data.toList).isSome || madeL [kDec] (S.extract j S.size).data.toList) by unfold endsB; rw [ext_drop, hjl, hSl])
  have hps : (S.extract j S.size).size ≤ 140737488355328 := by rw [ByteArray.size_extract]; omega
  have HC := Lib.hid (number_is (S.extract j S.size) hps w hG)
  have HSS := Lib.hid hS
  have HJ := Lib.hid hj
  have HPS := Lib.hid hps
  have HG := Lib.hid hG
  have c0 := fun w' (h : Below w.heap.size w w') => (hG.to h).dec0
  have c1 := fun w' (h : Below w.heap.size w w') => (hG.to h).dec1
  have C0 := Lib.hid c0
  have C1 := Lib.hid c1
  have hj2 : (j : Int) ≤ (S.size : Int) := by omega
  clear hj hS hSl hjl hG c0 c1 hps
  go_enter Tryd.func15, Tryd.ntmps15
  go_wp2_with (first
    | (go_at_call 24; refine (Tryd.strings_TrimSuffix s ⟨#[46]⟩ _ (by omega)).mono ?_; rintro e w' ⟨rfl, hw⟩; rw [hw, HT.out, ← HSS.out])
    | (go_at_call 30; refine (Tryd.strings_LastIndexByte S 46 (by omega) _).mono ?_; rintro e w' ⟨rfl, hw⟩; rw [hw, show Lib.lastIndexByte S 46 = (j : Int) - 1 from HJ.out]))
  refine HC.out.mono ?_
  rintro e w1 ⟨rfl, hb⟩
  have HB := Lib.hid hb
  have d0 := C0.out _ hb
  have d1 := C1.out _ hb
  clear hb
  rcases hno : numO (S.extract j S.size).data.toList with _ | n
  · have HN := Lib.hid hno
    clear hno
    simp only [optE]
    go_wp2_with fail
    refine (made_any _ HPS.out _ [kDec] 1 1 rfl (by omega) _ (kinds1 w1 kDec)).mono ?_
    rintro e w2 ⟨rfl, hb⟩
    have HB2 := Lib.hid (bel2 HB.out (bel2 (bnew _ _) hb))
    clear hb d0 d1
    go_wp2_with fail
    go_ret
    exact ⟨ret_bool (by rw [HE.out, HN.out]; simp), HB2.out⟩
  · have HN := Lib.hid hno
    clear hno d0 d1
    simp only [optE]
    go_wp2_with fail
    go_ret
    exact ⟨ret_bool (by rw [HE.out, HN.out]; rfl), HB.out⟩
end Go.Proofs.YtamhmpgaapgmbaaDoor
