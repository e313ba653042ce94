/-
  The walk of CspHeaders.
-/
import Derived.Test.YtempmmkdppelaaaGreatDoorU3M
namespace Go.Proofs.YtempmmkdppelaaaGreatDoor
open Go.RowKit
theorem stepD_mod {st : Option (List Dir)} {p : List UInt8} (h : ∀ l, st = some l → l.length ≤ 64 ∧ ∀ x ∈ l, x.2.length ≤ 64) : ∀ l, stepD st p = some l → l.length ≤ 64 ∧ ∀ x ∈ l, x.2.length ≤ 64 := by
  intro l hl
  unfold stepD at hl
  cases st with
  | none => cases hl
  | some l0 =>
    have h0 := h l0 rfl
    simp only at hl
    split at hl
    · cases hl; exact h0
    · split at hl
      · cases hl; exact h0
      · split at hl
        · cases hl
        · rename_i hno
          cases hl
          refine ⟨by rw [List.length_append]; simp; omega, fun x hx => ?_⟩
          rcases List.mem_append.1 hx with hx | hx
          · exact h0.2 x hx
          · rw [List.mem_singleton] at hx; subst hx; simp only; omega
theorem partsD_mod (ps : List (List UInt8)) : ∀ l, partsD ps = some l → l.length ≤ 64 ∧ ∀ x ∈ l, x.2.length ≤ 64 := by
  unfold partsD
  suffices ∀ (ps : List (List UInt8)) (st : Option (List Dir)), (∀ l, st = some l → l.length ≤ 64 ∧ ∀ x ∈ l, x.2.length ≤ 64) → ∀ l, ps.foldl stepD st = some l → l.length ≤ 64 ∧ ∀ x ∈ l, x.2.length ≤ 64 from
    this ps (some []) (fun l hl => by cases hl; simp)
  intro ps
  induction ps with
  | nil => exact fun st h => h
  | cons p ps ih => exact fun st h => ih _ (stepD_mod h)
theorem parseP_mod {s : ByteArray} {l : List Dir} (h : parseP s = .ok l) : l.length ≤ 64 ∧ ∀ x ∈ l, x.2.length ≤ 64 := by
  unfold parseP at h
  split at h
  · cases h
  · split at h
    · cases h
    · rename_i hp; cases h
      exact partsD_mod _ _ hp
theorem mod_of {l : List Dir} (h : l.length ≤ 64 ∧ ∀ x ∈ l, x.2.length ≤ 64) : Mod l := ⟨by omega, fun x hx => by have := h.2 x hx; omega⟩
theorem foldH_mod (ps : List (List UInt8)) : ∀ l, foldH ps = .ok l → ∀ x ∈ l, Mod x := by
  unfold foldH
  suffices ∀ (ps : List (List UInt8)) (st : Except Nat (List (List Dir))), (∀ l, st = .ok l → ∀ x ∈ l, Mod x) → ∀ l, ps.foldl stepH st = .ok l → ∀ x ∈ l, Mod x from
    this ps (.ok []) (fun l hl => by cases hl; simp)
  intro ps
  induction ps with
  | nil => exact fun st h => h
  | cons p ps ih =>
    refine fun st h => ih _ ?_
    intro l hl
    unfold stepH at hl
    cases st with
    | error c => cases hl
    | ok out =>
      have h0 := h out rfl
      simp only at hl
      split at hl
      · cases hl
      · rename_i l1 hl1
        split at hl
        · cases hl
          intro x hx
          rcases List.mem_append.1 hx with hx | hx
          · exact h0 x hx
          · rw [List.mem_singleton] at hx; subst hx; exact mod_of (parseP_mod hl1)
        · cases hl; exact h0
def heC (st : Except Nat (List (List Dir))) : Nat := match st with | .error c => c | .ok _ => 0
def heL (st : Except Nat (List (List Dir))) : List (List Dir) := match st with | .error _ => [] | .ok l => l
theorem headP_mod (l : List ByteArray) : (heL (headP l)).length ≤ 64 ∧ ∀ x ∈ heL (headP l), Mod x := by
  unfold headP
  split
  · exact ⟨by simp [heL], by simp [heL]⟩
  · rename_i out h
    split
    · exact ⟨by simp [heL], by simp [heL]⟩
    · exact ⟨by simp only [heL]; omega, foldH_mod _ _ h⟩
theorem header_pols (lv : Value) (l : List ByteArray) (rep : Bool) (st : Except Nat (List (List Dir))) (hst : headP l = st) (hm : l.length ≤ 2097152) (hz : ∀ x ∈ l, x.size ≤ 2097152) (w : World) (hv : Strs w lv l) :
    Calls Tryz.prog 12 #[lv, .bool rep] w fun e w' => (∃ q c, e = .returned (.tuple #[.slice q (heL st).length c, .int .i64 (heC st)]) ∧ Pols w' rep (.slice q (heL st).length c) (heL st)) ∧ Below w.heap.size w w' := by
  refine ((callsIn_wide (n := 6)).1 (header_box 6 (Nat.le_refl _) lv l rep hm hz w hv)).mono ?_
  rintro e w' ⟨h, hb⟩
  refine ⟨?_, hb⟩
  rw [hst] at h
  cases st with
  | error c => exact ⟨none, 0, h, none, 0, rfl, fun i x hx => by simp [heL] at hx⟩
  | ok l' =>
    obtain ⟨v, ps, he, ho, hl⟩ := h
    have hp := ho.lies
    rw [← hl] at hp
    have hp' := hp
    obtain ⟨p, cap, hv', _⟩ := hp
    subst hv'
    exact ⟨p, cap, he, hp'⟩
theorem partsAt_join (c : UInt8) (a b : List UInt8) : Ks.partsAt c (a ++ c :: b) = Ks.partsAt c a ++ Ks.partsAt c b := by
  induction a with
  | nil => simp [Ks.partsAt]
  | cons x a ih =>
    rw [List.cons_append, Ks.partsAt, Ks.partsAt]
    by_cases h : x = c
    · rw [if_pos h, if_pos h, ih]; rfl
    · rw [if_neg h, if_neg h, ih]
      cases hp : Ks.partsAt c a with
      | nil => exact absurd hp (Ks.partsAt_ne c a)
      | cons y ys => rfl
theorem head_join (a b : ByteArray) : headP [a ++ ⟨#[44]⟩ ++ b] = headP [a, b] := by
  unfold headP
  have : partsH [a ++ ⟨#[44]⟩ ++ b] = partsH [a, b] := by
    unfold partsH
    simp only [List.flatMap_cons, List.flatMap_nil, List.append_nil, ByteArray.data_append, Array.toList_append]
    rw [List.append_assoc]
    exact partsAt_join 44 _ _
  rw [this]
theorem strs_two (w : World) (a b : ByteArray) : Strs (w.alloc (.cells #[.string a, .string b] 9)) (.slice (some ⟨w.heap.size, 0, none⟩) 2 2) [a, b] :=
  ⟨_, 2, rfl, fun i x hi => by
    refine ⟨w.heap.size, 0, rfl, by simp, ?_⟩
    match i, hi with
    | 0, hi => cases hi; exact (Has.new w _).cell 0 rfl
    | 1, hi => cases hi; exact (Has.new w _).cell 1 rfl
    | i + 2, hi => simp at hi⟩
theorem strs_one (w : World) (a : ByteArray) : Strs (w.alloc (.cells #[.string a] 9)) (.slice (some ⟨w.heap.size, 0, none⟩) 1 1) [a] :=
  ⟨_, 1, rfl, fun i x hi => by
    refine ⟨w.heap.size, 0, rfl, by simp, ?_⟩
    match i, hi with
    | 0, hi => cases hi; exact (Has.new w _).cell 0 rfl
    | i + 1, hi => simp at hi⟩
set_option maxHeartbeats 2000000 in
set_option maxRecDepth 100000 in
theorem CspHeaders_std (a b : ByteArray) (rep : Bool) (hab : a.size + b.size ≤ 1048576) (w : World) (hM : ML w) :
    Calls Tryz.prog 6 #[.string a, .string b, .bool rep] w fun e w' => e = .returned (.bool true) ∧ Below w.heap.size w w' := by
  have HL := Lib.hid (lives_is w hM)
  have i2 : ¬ 9223372036854775807 < a.size + 1 := by omega
  have i3 : ¬ 9223372036854775807 < a.size + 1 + b.size := by omega
  obtain ⟨st, hst⟩ : ∃ st, headP [a, b] = st := ⟨_, rfl⟩
  have hmod := headP_mod [a, b]
  rw [hst] at hmod
  have HH1 := Lib.hid (fun W : World => header_pols _ [a, b] rep st hst (by simp) (by intro x hx; simp only [List.mem_cons, List.mem_nil_iff, or_false] at hx; rcases hx with rfl | rfl <;> omega) _ (strs_two W a b))
  have HH2 := Lib.hid (fun W : World => header_pols _ [a ++ ⟨#[44]⟩ ++ b] rep st ((head_join a b).trans hst) (by simp) (by intro x hx; simp only [List.mem_cons, List.mem_nil_iff, or_false] at hx; subst hx; rw [ByteArray.size_append, ByteArray.size_append]; have : ByteArray.size ⟨#[44]⟩ = 1 := rfl; omega) _ (strs_one W _))
  generalize heC st = c at *
  generalize heL st = l at *
  have HMO := Lib.hid hmod
  clear hst hM hmod
  go_enter Tryz.func6, Tryz.ntmps6
  go_wp2_with (go_at_call 18; refine HL.out.mono ?_; rintro e w1 ⟨rfl, hb1⟩; have HB1 := Lib.hid hb1; clear hb1)
  refine (HH1.out _).mono ?_
  rintro e w2 ⟨⟨q1, c1, rfl, hp1⟩, hb2⟩
  have HB2 := Lib.hid ((HB1.out.alloc HB1.out.size (.cells #[.string a, .string b] 9)).trans (hb2.mono (by have := HB1.out.size; simp; omega)))
  have HP2 := Lib.hid hp1
  clear hb2 hp1 HB1
  go_wp2_with fail
  refine (HH2.out _).mono ?_
  rintro e w3 ⟨⟨q2, c2, rfl, hp2⟩, hb3⟩
  have HB3 := Lib.hid ((HB2.out.alloc HB2.out.size (.cells #[.string (a ++ ⟨#[44]⟩ ++ b)] 9)).trans (hb3.mono (by have := HB2.out.size; simp; omega)))
  have HP3 := Lib.hid ((HP2.out.to (bnew _ _)).to hb3)
  have HQ3 := Lib.hid hp2
  clear hb3 hp2 HB2 HP2
  have HSA := Lib.hid (sameAll_is _ _ rep l l (by have := HMO.out.1; omega) (by have := HMO.out.1; omega) HMO.out.2 HMO.out.2 w3 HP3.out HQ3.out true (by simp))
  go_wp2_with (go_at_call 20; refine HSA.out.mono ?_; rintro e w4 ⟨rfl, hb4⟩; have HB4 := Lib.hid (HB3.out.trans (hb4.mono HB3.out.size)); clear hb4)
  go_ret
  exact ⟨rfl, HB4.out⟩
end Go.Proofs.YtempmmkdppelaaaGreatDoor
