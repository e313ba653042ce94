import Derived.Test.YtikdncmgppckfaaDoorG1
/-
  The contract of query's Find: the value of the first pair of a name, or none; nothing that was there is changed. Conditions: a list's length fits; the values take at most 2^48 bytes each.
-/
namespace Go.Proofs.YtikdncmgppckfaaDoor
open Go.RowKit
theorem idxI_none {p : Fd → Bool} {l : List Fd} (h : idxI p l < 0) : l.find? p = none ∧ idxI p l = -1 := by
  unfold idxI at h ⊢
  cases hf : l.findIdx? p with
  | some i => rw [hf] at h; simp only at h; omega
  | none =>
    rw [List.findIdx?_eq_none_iff] at hf
    refine ⟨?_, rfl⟩
    rw [List.find?_eq_none]
    intro x hx; rw [hf x hx]; simp
theorem idxI_some {p : Fd → Bool} {l : List Fd} (h : 0 ≤ idxI p l) : ∃ i, ∃ hi : i < l.length, idxI p l = i ∧ l.find? p = some l[i] ∧ p l[i] = true ∧ ∀ j x, j < i → l[j]? = some x → p x = false := by
  unfold idxI at h ⊢
  cases hf : l.findIdx? p with
  | none => rw [hf] at h; simp only at h; omega
  | some i =>
    obtain ⟨hi, h1, h2⟩ := List.findIdx?_eq_some_iff_getElem.1 hf
    refine ⟨i, hi, rfl, ?_, h1, ?_⟩
    · rw [List.find?_eq_some_iff_getElem]
      exact ⟨h1, i, hi, rfl, fun j hj => by simpa using h2 j hj⟩
    · intro j x hj hx
      have hjl := (List.getElem?_eq_some_iff.1 hx)
      obtain ⟨hjl, rfl⟩ := hjl
      simpa using h2 j hj
/-- what Find answers -/
def findT (nm : ByteArray) (l : List Fd) : ByteArray × Bool := match l.find? (isN nm) with
  | some x => (x.2, true)
  | none => (⟨#[]⟩, false)
set_option maxHeartbeats 1000000 in
theorem find_is (v : Value) (l : List Fd) (nm : ByteArray) (T : ByteArray) (b : Bool) (hT : findT nm l = (T, b)) (hm : l.length ≤ 140737488355328) (hs : ∀ x ∈ l, x.2.size ≤ 281474976710656) (w : World) (hv : Lst w v l) :
    Calls Tryd.prog 15 #[v, .string nm] w fun e w' => e = .returned (.tuple #[.string T, .bool b]) ∧ Below w.heap.size w w' := by
  obtain ⟨r, hr⟩ : ∃ r, idxI (isN nm) l = r := ⟨_, rfl⟩
  have HB0 := Lib.hid (bnew w (.cells #[.string nm] 9))
  have HI := Lib.hid (indexNamed nm w.heap.size v l r hr hm (w.alloc (.cells #[.string nm] 9)) (hv.below HB0.out) (Boxed.new w 9 _))
  have HM := Lib.hid (mk_named nm w)
  have HV := Lib.hid hv
  obtain ⟨p, cap, rfl, _⟩ := hv
  by_cases h0 : r < 0
  · have h1 := idxI_none (p := isN nm) (l := l) (by rw [hr]; exact h0)
    have hr1 : r = -1 := by rw [← hr]; exact h1.2
    have HT := Lib.hid (show T = ⟨#[]⟩ ∧ b = false by
      unfold findT at hT; rw [h1.1] at hT; simp only [Prod.mk.injEq] at hT; exact ⟨hT.1.symm, hT.2.symm⟩)
    subst hr1
    clear hT hr h1 h0
    go_enter Tryd.func15, Tryd.ntmps15
    go_wp2_with (first | (go_at_call 34; refine HM.out.mono ?_; rintro e w1 ⟨rfl, rfl⟩) | (go_at_call 33; refine HI.out.mono ?_; rintro e w2 ⟨rfl, hb2⟩))
    go_ret2
    exact ⟨by rw [HT.out.1, HT.out.2]; rfl, HB0.out.trans (hb2.mono (by simp))⟩
  · obtain ⟨i, hi, hri, hf, _, _⟩ := idxI_some (p := isN nm) (l := l) (by rw [hr]; omega)
    rw [hr] at hri
    subst hri
    have HT := Lib.hid (show T = l[i].2 ∧ b = true by
      unfold findT at hT; rw [hf] at hT; simp only [Prod.mk.injEq] at hT; exact ⟨hT.1.symm, hT.2.symm⟩)
    have hsz := hs _ (List.getElem_mem hi)
    have i1 : (i : Int) < (l.length : Int) := by omega
    clear hT hr hf hs
    go_enter Tryd.func15, Tryd.ntmps15
    go_wp2_with (first | (go_at_call 34; refine HM.out.mono ?_; rintro e w1 ⟨rfl, rfl⟩) | (go_at_call 33; refine HI.out.mono ?_; rintro e w2 ⟨rfl, hb2⟩; have HB2 := Lib.hid (HB0.out.trans (hb2.mono (by simp))); clear hb2; obtain ⟨p', cap', hpe, hcc⟩ := HV.out.below HB2.out; simp only [Value.slice.injEq] at hpe; obtain ⟨rfl, -, rfl⟩ := hpe; obtain ⟨g, o, rfl, hg, hx, hy⟩ := hcc i l[i] (getF hi); clear hcc hx))
    refine (clone_is l[i].2 _ hsz).mono ?_
    rintro e w3 ⟨rfl, hb3⟩
    have HB3 := Lib.hid (bel2 HB2.out hb3)
    clear hb3
    go_wp2
    go_ret2
    exact ⟨by rw [HT.out.1, HT.out.2]; rfl, HB3.out⟩
end Go.Proofs.YtikdncmgppckfaaDoor
