/-
  Plain words for lists of pairs of texts, where they lie, and the contracts of the two predicates (a pair that is too long, a pair of a name) and of slices.IndexFunc and ContainsFunc with them. No conditions but that a list's length fits.
-/
import Derived.Test.YtikdncmgppckfaaDoorPB
import Derived.RangeFuncNested
namespace Go.Proofs.YtikdncmgppckfaaDoor
open Go.RowKit
/-- a pair of texts -/
abbrev Fd := ByteArray × ByteArray
def encF (x : Fd) : List Value := [.string x.1, .string x.2]
/-- the slice v reads in w as the list l of pairs -/
def Lst (w : World) (v : Value) (l : List Fd) : Prop :=
  ∃ (p : Option Addr) (cap : Nat), v = .slice p l.length cap ∧ ∀ i x, l[i]? = some x → ∃ g o, p = some ⟨g, o, none⟩ ∧ g < w.heap.size ∧ w.cell? ⟨g, o + i * 2, none⟩ = some (.string x.1) ∧ w.cell? ⟨g, o + i * 2 + 1, none⟩ = some (.string x.2)
theorem Lst.below {w w' : World} {v : Value} {l : List Fd} (h : Lst w v l) (hb : Below w.heap.size w w') : Lst w' v l := by
  obtain ⟨p, cap, hv, hc⟩ := h
  refine ⟨p, cap, hv, fun i x hi => ?_⟩
  obtain ⟨g, o, hp, hg, h1, h2⟩ := hc i x hi
  exact ⟨g, o, hp, Nat.lt_of_lt_of_le hg hb.size, (hb.cell (p := ⟨g, o + i * 2, none⟩) hg).trans h1, (hb.cell (p := ⟨g, o + i * 2 + 1, none⟩) hg).trans h2⟩
theorem getF {l : List Fd} {k : Nat} (h : k < l.length) : l[k]? = some l[k] := List.getElem?_eq_getElem h
/-- the pair's texts are of at most 4096 bytes each -/
def longF (x : Fd) : Bool := decide (4096 < x.1.size) || decide (4096 < x.2.size)
set_option maxHeartbeats 400000 in
theorem long_is (a b : ByteArray) (w : World) : Calls Tryd.prog 24 #[.agg #[.string a, .string b]] w fun e w' => e = .returned (.bool (longF (a, b))) ∧ Below w.heap.size w w' := by
  have hb := bnew w (.cells #[.string a, .string b] 38)
  have HB := Lib.hid hb
  have h0 : (w.alloc (.cells #[.string a, .string b] 38)).cell? ⟨w.heap.size, 0, none⟩ = some (.string a) := cell_of_row _ _ 0 _ _ _ (heap_alloc_new w _)
  have h1 : (w.alloc (.cells #[.string a, .string b] 38)).cell? ⟨w.heap.size, 1, none⟩ = some (.string b) := cell_of_row _ _ 1 _ _ _ (heap_alloc_new w _)
  clear hb
  by_cases ha : 4096 < a.size
  · have HR := Lib.hid (show longF (a, b) = true by simp [longF, ha])
    have g1 : decide ((4096 : Int) < (a.size : Int)) = true := by simp; omega
    go_enter Tryd.func24, Tryd.ntmps24
    go_wp2
    go_ret
    exact ⟨ret_bool HR.out.symm, HB.out⟩
  · have HR := Lib.hid (show longF (a, b) = decide ((4096 : Int) < (b.size : Int)) by simp [longF, ha]; omega)
    have g1 : decide ((4096 : Int) < (a.size : Int)) = false := by simp; omega
    go_enter Tryd.func24, Tryd.ntmps24
    go_wp2
    go_ret
    exact ⟨ret_bool HR.out.symm, HB.out⟩
/-- what IndexFunc answers -/
def idxI (p : Fd → Bool) (l : List Fd) : Int := match l.findIdx? p with
  | some i => i
  | none => -1
theorem idx_none {p : Fd → Bool} {l : List Fd} (h : ∀ (j : Nat) (x : Fd), l[j]? = some x → p x = false) : idxI p l = -1 := by
  have : l.findIdx? p = none := by
    rw [List.findIdx?_eq_none_iff]
    intro x hx
    obtain ⟨j, hj, rfl⟩ := List.getElem_of_mem hx
    exact h j _ (getF hj)
  simp [idxI, this]
theorem idx_some {p : Fd → Bool} {l : List Fd} {k : Nat} (hk : k < l.length) (h : ∀ (j : Nat) (x : Fd), j < k → l[j]? = some x → p x = false) (h1 : p l[k] = true) : idxI p l = k := by
  have : l.findIdx? p = some k := by
    rw [List.findIdx?_eq_some_iff_getElem]
    refine ⟨hk, h1, fun j hj => ?_⟩
    have := h j _ hj (getF (by omega))
    simp [this]
  simp [idxI, this]
set_option maxHeartbeats 1000000 in
theorem indexLong (v : Value) (l : List Fd) (r : Int) (hr : idxI longF l = r) (hm : l.length ≤ 140737488355328) (w : World) (hv : Lst w v l) :
    Calls Tryd.prog 33 #[v, .func (.func 24) #[] #[]] w fun e w' => e = .returned (.int .i64 r) ∧ Below w.heap.size w w' := by
  obtain ⟨p, cap, rfl, hA⟩ := hv
  have HA := Lib.hid hA
  have HR := Lib.hid hr
  clear hA hr
  go_enter Tryd.func33, Tryd.ntmps33
  go_wp2_with fail
  go_loopw [8] (fun i wr => ∃ k : Nat, k ≤ l.length ∧ i = .int .i64 k ∧ Hid (∀ (j : Nat) (x : Fd), j < k → l[j]? = some x → longF x = false) ∧ Below w.heap.size w wr) (fun i _ => l.length - (intOf i).toNat)
  case atStart => exact ⟨0, by omega, rfl, Lib.hid (by intro j x hj; omega), Below.refl _ _⟩
  case round =>
    obtain ⟨k, hk, rfl, HE, hbel⟩ := hrel
    by_cases hlt : k < l.length
    · obtain ⟨g, o, rfl, hg, hx, hy⟩ := HA.out k l[k] (getF hlt)
      have hx2 := (hbel.cell (p := ⟨g, o + k * 2, none⟩) hg).trans hx
      have hy2 := (hbel.cell (p := ⟨g, o + k * 2 + 1, none⟩) hg).trans hy
      have i1 : (k : Int) < (l.length : Int) := by omega
      have HB := Lib.hid hbel
      have HS := Lib.hid (show longF l[k] = true → idxI longF l = k from fun e => idx_some hlt HE.out e)
      have HN := Lib.hid (show longF l[k] = false → ∀ (j : Nat) (x : Fd), j < k + 1 → l[j]? = some x → longF x = false from fun e j x hj hxx => by
        by_cases hjk : j = k
        · subst hjk; rw [getF hlt] at hxx; cases hxx; exact e
        · exact HE.out j x (by omega) hxx)
      clear hx hy hbel HE
      generalize l[k] = f at *
      obtain ⟨a, b⟩ := f
      go_wp2_with fail
      refine (long_is a b _).mono ?_
      rintro e w1 ⟨rfl, hb1⟩
      have HB1 := Lib.hid (bel2 HB.out hb1)
      clear hb1
      cases hl : longF (a, b) with
      | true =>
        go_wp2
        go_ret
        exact ⟨ret_int (by rw [← HR.out, HS.out hl]), HB1.out⟩
      | false =>
        go_wp2
        go_roundw
        case rel => exact ⟨k + 1, by omega, by go_num, Lib.hid (HN.out hl), HB1.out⟩
        case measure => simp [intOf]; omega
    · have HD := Lib.hid (show idxI longF l = -1 from idx_none fun j x hj => HE.out j x (by have := (List.getElem?_eq_some_iff.1 hj).1; omega) hj)
      go_wp2
      go_ret
      exact ⟨ret_int (by rw [← HR.out, HD.out]), hbel⟩
theorem idx_geq (p : Fd → Bool) (l : List Fd) : decide (0 ≤ idxI p l) = l.any p := by
  rw [Bool.eq_iff_iff, decide_eq_true_eq]
  unfold idxI
  cases h : l.findIdx? p with
  | some i =>
    have h2 := List.findIdx?_eq_some_iff_getElem.1 h
    obtain ⟨hi, h3, _⟩ := h2
    simp only [List.any_eq_true]
    exact ⟨fun _ => ⟨_, List.getElem_mem hi, h3⟩, fun _ => by omega⟩
  | none =>
    rw [List.findIdx?_eq_none_iff] at h
    simp only [List.any_eq_true]
    constructor
    · intro h; omega
    · rintro ⟨x, hx, hp⟩; rw [h x hx] at hp; cases hp
set_option maxHeartbeats 400000 in
theorem anyLong (v : Value) (l : List Fd) (b : Bool) (hb : l.any longF = b) (hm : l.length ≤ 140737488355328) (w : World) (hv : Lst w v l) :
    Calls Tryd.prog 25 #[v, .func (.func 24) #[] #[]] w fun e w' => e = .returned (.bool b) ∧ Below w.heap.size w w' := by
  obtain ⟨r, hr⟩ : ∃ r, idxI longF l = r := ⟨_, rfl⟩
  have HC := Lib.hid (indexLong v l r hr hm w hv)
  have HR := Lib.hid (show decide (0 ≤ r) = b by rw [← hr, idx_geq, hb])
  obtain ⟨p, cap, rfl, _⟩ := hv
  clear hr hb
  go_enter Tryd.func25, Tryd.ntmps25
  go_wp2_with (go_at_call 33; refine HC.out.mono ?_; rintro e w1 ⟨rfl, hb1⟩)
  go_ret
  exact ⟨ret_bool HR.out, hb1⟩
end Go.Proofs.YtikdncmgppckfaaDoor
