/-
  Lists of texts and of directives in memory; csp's named and slices.IndexFunc, ContainsFunc with it; csp's word and right.
-/
import Derived.Test.YtempmmkdppelaaaGreatDoorIYM
import Derived.Test.YtempmmkdppelaaaGreatDoorPctBM
import Derived.Test.YtempmmkdppelaaaGreatDoorWBM
namespace Go.Proofs.YtempmmkdppelaaaGreatDoor
open Go.RowKit
theorem Boxed.to' {w w' : World} {b : Nat} {t : TypeId} {v : Value} (h : Boxed w b t v) (hb : Below w.heap.size w w') : Boxed w' b t v := (hb.block b h.lt).trans h
/-- a list of texts lies at v -/
def Strs (w : World) (v : Value) (l : List ByteArray) : Prop :=
  ∃ (p : Option Addr) (cap : Nat), v = .slice p l.length cap ∧ ∀ i x, l[i]? = some x → ∃ g o, p = some ⟨g, o, none⟩ ∧ g < w.heap.size ∧ w.cell? ⟨g, o + i, none⟩ = some (.string x)
theorem Strs.to {w w' : World} {v : Value} {l : List ByteArray} (h : Strs w v l) (hb : Below w.heap.size w w') : Strs w' v l := by
  obtain ⟨p, cap, hv, hc⟩ := h
  refine ⟨p, cap, hv, fun i x hi => ?_⟩
  obtain ⟨g, o, hp, hg, h1⟩ := hc i x hi
  exact ⟨g, o, hp, Nat.lt_of_lt_of_le hg hb.size, (hb.cell (p := ⟨g, o + i, none⟩) hg).trans h1⟩
/-- a directive: its name and its values -/
abbrev Dir := ByteArray × List ByteArray
/-- a list of directives lies at v -/
def Dirs (w : World) (v : Value) (l : List Dir) : Prop :=
  ∃ (p : Option Addr) (cap : Nat), v = .slice p l.length cap ∧ l.length ≤ cap ∧ ∀ i x, l[i]? = some x → ∃ g o vs, p = some ⟨g, o, none⟩ ∧ g < w.heap.size ∧ w.cell? ⟨g, o + i * 2, none⟩ = some (.string x.1) ∧ w.cell? ⟨g, o + i * 2 + 1, none⟩ = some vs ∧ Strs w vs x.2
theorem Dirs.to {w w' : World} {v : Value} {l : List Dir} (h : Dirs w v l) (hb : Below w.heap.size w w') : Dirs w' v l := by
  obtain ⟨p, cap, hv, hl, hc⟩ := h
  refine ⟨p, cap, hv, hl, fun i x hi => ?_⟩
  obtain ⟨g, o, vs, hp, hg, h1, h2, h3⟩ := hc i x hi
  exact ⟨g, o, vs, hp, Nat.lt_of_lt_of_le hg hb.size, (hb.cell (p := ⟨g, o + i * 2, none⟩) hg).trans h1, (hb.cell (p := ⟨g, o + i * 2 + 1, none⟩) hg).trans h2, h3.to hb⟩
theorem getT {α : Type} {l : List α} {k : Nat} (h : k < l.length) : l[k]? = some l[k] := List.getElem?_eq_getElem h
/-- where the first one is, or -1 -/
def idxI {α : Type} (p : α → Bool) : List α → Int
  | [] => -1
  | x :: l => if p x then 0 else if idxI p l = -1 then -1 else idxI p l + 1
theorem idxI_ge {α : Type} (p : α → Bool) : ∀ l : List α, -1 ≤ idxI p l
  | [] => Int.le_refl _
  | x :: l => by
    have := idxI_ge p l
    unfold idxI; split
    · omega
    · split <;> omega
theorem idxI_none {α : Type} {p : α → Bool} : ∀ {l : List α}, (∀ x ∈ l, p x = false) → idxI p l = -1
  | [], _ => rfl
  | x :: l, h => by
    unfold idxI
    rw [if_neg (by rw [h x (by simp)]; simp), if_pos (idxI_none fun y hy => h y (by simp [hy]))]
theorem idxI_hit {α : Type} {p : α → Bool} : ∀ {l : List α} {k : Nat} (hk : k < l.length), (∀ (j : Nat) x, j < k → l[j]? = some x → p x = false) → p l[k] = true → idxI p l = k
  | x :: l, 0, _, _, h => by unfold idxI; rw [if_pos (by simpa using h)]; rfl
  | x :: l, k + 1, hk, hb, h => by
    have h0 := hb 0 x (by omega) rfl
    have ih := idxI_hit (l := l) (k := k) (by simpa using hk) (fun j y hj hy => hb (j + 1) y (by omega) (by simpa using hy)) (by simpa using h)
    unfold idxI
    rw [if_neg (by rw [h0]; simp), if_neg (by omega), ih]; simp
theorem idxI_any {α : Type} (p : α → Bool) : ∀ l : List α, decide (0 ≤ idxI p l) = l.any p
  | [] => rfl
  | x :: l => by
    have ih := idxI_any p l
    have hg := idxI_ge p l
    unfold idxI
    rw [List.any_cons, ← ih]
    cases h : p x with
    | true => simp
    | false =>
      simp only [Bool.false_eq_true, if_false, Bool.false_or]
      by_cases h1 : idxI p l = -1
      · rw [if_pos h1, h1]
      · rw [if_neg h1]
        have : (0 : Int) ≤ idxI p l + 1 := by omega
        have h2 : (0 : Int) ≤ idxI p l := by omega
        simp [this, h2]
/-- the directive's name is nm -/
def isD (nm : ByteArray) (x : Dir) : Bool := x.1.toList == nm.toList
set_option maxHeartbeats 400000 in
theorem mk_named (nm : ByteArray) (w : World) : Calls Tryz.prog 37 #[.string nm] w fun e w' => e = .returned (.func (.func 57) #[] #[.pointer (some ⟨w.heap.size, 0, none⟩)]) ∧ w' = w.alloc (.cells #[.string nm] 9) := by
  go_enter Tryz.func37, Tryz.ntmps37
  go_wp2
  go_ret
  exact ⟨rfl, rfl⟩
set_option maxHeartbeats 400000 in
theorem named_is (a nm : ByteArray) (vs : Value) (l : List ByteArray) (bx : Nat) (w : World) (hB : Boxed w bx 9 (.string nm)) (hvs : ∃ q n c, vs = .slice q n c) : Calls Tryz.prog 57 #[.agg #[.string a, vs], .pointer (some ⟨bx, 0, none⟩)] w fun e w' => e = .returned (.bool (isD nm (a, l))) ∧ Below w.heap.size w w' := by
  obtain ⟨q, n, c, rfl⟩ := hvs
  have HB := Lib.hid (bnew w (.cells #[.string a, .slice q n c] 35))
  have h0 : (w.alloc (.cells #[.string a, .slice q n c] 35)).cell? ⟨w.heap.size, 0, none⟩ = some (.string a) := cell_of_row _ _ 0 _ _ _ (heap_alloc_new _ _)
  have h1 : (w.alloc (.cells #[.string a, .slice q n c] 35)).cell? ⟨bx, 0, none⟩ = some (.string nm) := (hB.alloc _).cell
  clear hB
  go_enter Tryz.func57, Tryz.ntmps57
  go_wp2
  go_ret
  exact ⟨rfl, HB.out⟩
set_option maxHeartbeats 1000000 in
theorem indexNamed (nm : ByteArray) (bx : Nat) (v : Value) (l : List Dir) (r : Int) (hr : idxI (isD nm) l = r) (hm : l.length ≤ 140737488355328) (w : World) (hv : Dirs w v l) (hB : Boxed w bx 9 (.string nm)) :
    Calls Tryz.prog 45 #[v, .func (.func 57) #[] #[.pointer (some ⟨bx, 0, none⟩)]] w fun e w' => e = .returned (.int .i64 r) ∧ Below w.heap.size w w' := by
  obtain ⟨p, cap, rfl, _, hA⟩ := hv
  have HA := Lib.hid hA
  have HR := Lib.hid hr
  have HBX := Lib.hid hB
  clear hA hr hB
  go_enter Tryz.func45, Tryz.ntmps45
  go_wp2_with fail
  go_loopw [8] (fun i wr => ∃ k : Nat, k ≤ l.length ∧ i = .int .i64 k ∧ Hid (∀ (j : Nat) (x : Dir), j < k → l[j]? = some x → isD nm x = false) ∧ Below w.heap.size w wr) (fun i _ => l.length - (intOf i).toNat)
  case atStart => exact ⟨0, by omega, rfl, Lib.hid (by intro j x hj; omega), Below.refl _ _⟩
  case round =>
    obtain ⟨k, hk, rfl, HE, hbel⟩ := hrel
    by_cases hlt : k < l.length
    · obtain ⟨g, o, vs, rfl, hg, hx, hy, hz⟩ := HA.out k l[k] (getT hlt)
      have hx2 := (hbel.cell (p := ⟨g, o + k * 2, none⟩) hg).trans hx
      have hy2 := (hbel.cell (p := ⟨g, o + k * 2 + 1, none⟩) hg).trans hy
      have i1 : (k : Int) < (l.length : Int) := by omega
      have HB := Lib.hid hbel
      obtain ⟨q2, c2, hvs, _⟩ := hz
      have HS := Lib.hid (show isD nm l[k] = true → idxI (isD nm) l = k from fun e => idxI_hit hlt HE.out e)
      have HN := Lib.hid (show isD nm l[k] = false → ∀ (j : Nat) (x : Dir), j < k + 1 → l[j]? = some x → isD nm x = false from fun e j x hj hxx => by
        by_cases hjk : j = k
        · subst hjk; rw [getT hlt] at hxx; cases hxx; exact e
        · exact HE.out j x (by omega) hxx)
      clear hx hy hbel HE
      generalize l[k] = f at *
      obtain ⟨a, b⟩ := f
      subst hvs
      go_wp2_with fail
      refine (named_is a nm _ b bx _ (Boxed.to' HBX.out HB.out) ⟨_, _, _, rfl⟩).mono ?_
      rintro e w1 ⟨rfl, hb1⟩
      have HB1 := Lib.hid (bel2 HB.out hb1)
      clear hb1
      cases hl : isD nm (a, b) with
      | true =>
        go_wp2
        go_ret
        exact ⟨ret_int (by rw [← HR.out, HS.out hl]), HB1.out⟩
      | false =>
        go_wp2
        go_roundw
        case rel => exact ⟨k + 1, by omega, by go_num, Lib.hid (HN.out hl), HB1.out⟩
        case measure => simp [intOf]; omega
    · have HD := Lib.hid (show idxI (isD nm) l = -1 from idxI_none fun x hx => by obtain ⟨j, hj, rfl⟩ := List.getElem_of_mem hx; exact HE.out j _ (by omega) (getT hj))
      go_wp2
      go_ret
      exact ⟨ret_int (by rw [← HR.out, HD.out]), hbel⟩
set_option maxHeartbeats 1000000 in
theorem containsNamed (nm : ByteArray) (bx : Nat) (v : Value) (l : List Dir) (r : Bool) (hr : l.any (isD nm) = r) (hm : l.length ≤ 140737488355328) (w : World) (hv : Dirs w v l) (hB : Boxed w bx 9 (.string nm)) :
    Calls Tryz.prog 36 #[v, .func (.func 57) #[] #[.pointer (some ⟨bx, 0, none⟩)]] w fun e w' => e = .returned (.bool r) ∧ Below w.heap.size w w' := by
  have HC := Lib.hid (indexNamed nm bx v l _ rfl hm w hv hB)
  have HR := Lib.hid ((idxI_any (isD nm) l).trans hr)
  obtain ⟨p, cap, rfl, _⟩ := hv
  clear hr hB
  generalize idxI (isD nm) l = x at *
  go_enter Tryz.func36, Tryz.ntmps36
  go_wp2_with fail
  refine HC.out.mono ?_
  rintro e w1 ⟨rfl, hb1⟩
  have HB1 := Lib.hid hb1
  clear hb1
  go_wp2
  go_ret
  exact ⟨ret_bool HR.out, HB1.out⟩
end Go.Proofs.YtempmmkdppelaaaGreatDoor
