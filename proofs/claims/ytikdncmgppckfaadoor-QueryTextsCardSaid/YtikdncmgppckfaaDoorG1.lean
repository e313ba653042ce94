import Derived.Test.YtikdncmgppckfaaDoorG0
/-
  The contracts of query's named (a predicate) and of slices.IndexFunc with it; of Find.
-/
namespace Go.Proofs.YtikdncmgppckfaaDoor
open Go.RowKit
/-- the pair's name is nm -/
def isN (nm : ByteArray) (x : Fd) : Bool := x.1.toList == nm.toList
theorem Boxed.to' {w w' : World} {b : Nat} {t : TypeId} {v : Value} (h : Boxed w b t v) (hb : Below w.heap.size w w') : Boxed w' b t v := (hb.block b h.lt).trans h
set_option maxHeartbeats 400000 in
theorem mk_named (nm : ByteArray) (w : World) : Calls Tryd.prog 34 #[.string nm] w fun e w' => e = .returned (.func (.func 55) #[] #[.pointer (some ⟨w.heap.size, 0, none⟩)]) ∧ w' = w.alloc (.cells #[.string nm] 9) := by
  go_enter Tryd.func34, Tryd.ntmps34
  go_wp2
  go_ret
  exact ⟨rfl, rfl⟩
set_option maxHeartbeats 400000 in
theorem named_is (a b nm : ByteArray) (bx : Nat) (w : World) (hB : Boxed w bx 9 (.string nm)) : Calls Tryd.prog 55 #[.agg #[.string a, .string b], .pointer (some ⟨bx, 0, none⟩)] w fun e w' => e = .returned (.bool (isN nm (a, b))) ∧ Below w.heap.size w w' := by
  have HB := Lib.hid (bnew w (.cells #[.string a, .string b] 38))
  have h0 : (w.alloc (.cells #[.string a, .string b] 38)).cell? ⟨w.heap.size, 0, none⟩ = some (.string a) := cell_of_row _ _ 0 _ _ _ (heap_alloc_new w _)
  have h1 : (w.alloc (.cells #[.string a, .string b] 38)).cell? ⟨bx, 0, none⟩ = some (.string nm) := (hB.alloc _).cell
  clear hB
  go_enter Tryd.func55, Tryd.ntmps55
  go_wp2
  go_ret
  exact ⟨rfl, HB.out⟩
set_option maxHeartbeats 1000000 in
theorem indexNamed (nm : ByteArray) (bx : Nat) (v : Value) (l : List Fd) (r : Int) (hr : idxI (isN nm) l = r) (hm : l.length ≤ 140737488355328) (w : World) (hv : Lst w v l) (hB : Boxed w bx 9 (.string nm)) :
    Calls Tryd.prog 33 #[v, .func (.func 55) #[] #[.pointer (some ⟨bx, 0, none⟩)]] w fun e w' => e = .returned (.int .i64 r) ∧ Below w.heap.size w w' := by
  obtain ⟨p, cap, rfl, hA⟩ := hv
  have HA := Lib.hid hA
  have HR := Lib.hid hr
  have HBX := Lib.hid hB
  clear hA hr hB
  go_enter Tryd.func33, Tryd.ntmps33
  go_wp2_with fail
  go_loopw [8] (fun i wr => ∃ k : Nat, k ≤ l.length ∧ i = .int .i64 k ∧ Hid (∀ (j : Nat) (x : Fd), j < k → l[j]? = some x → isN nm x = false) ∧ Below w.heap.size w wr) (fun i _ => l.length - (intOf i).toNat)
  case atStart => exact ⟨0, by omega, rfl, Lib.hid (by intro j x hj; omega), Below.refl _ _⟩
  case round =>
    obtain ⟨k, hk, rfl, HE, hbel⟩ := hrel
    by_cases hlt : k < l.length
    · obtain ⟨g, o, rfl, hg, hx, hy⟩ := HA.out k l[k] (getF hlt)
      have hx2 := (hbel.cell (p := ⟨g, o + k * 2, none⟩) hg).trans hx
      have hy2 := (hbel.cell (p := ⟨g, o + k * 2 + 1, none⟩) hg).trans hy
      have i1 : (k : Int) < (l.length : Int) := by omega
      have HB := Lib.hid hbel
      have HS := Lib.hid (show isN nm l[k] = true → idxI (isN nm) l = k from fun e => idx_some hlt HE.out e)
      have HN := Lib.hid (show isN nm l[k] = false → ∀ (j : Nat) (x : Fd), j < k + 1 → l[j]? = some x → isN nm x = false from fun e j x hj hxx => by
        by_cases hjk : j = k
        · subst hjk; rw [getF hlt] at hxx; cases hxx; exact e
        · exact HE.out j x (by omega) hxx)
      clear hx hy hbel HE
      generalize l[k] = f at *
      obtain ⟨a, b⟩ := f
      go_wp2_with fail
      refine (named_is a b nm bx _ (Boxed.to' HBX.out HB.out)).mono ?_
      rintro e w1 ⟨rfl, hb1⟩
      have HB1 := Lib.hid (bel2 HB.out hb1)
      clear hb1
      cases hl : isN nm (a, b) with
      | true =>
        go_wp2
        go_ret
        exact ⟨ret_int (by rw [← HR.out, HS.out hl]), HB1.out⟩
      | false =>
        go_wp2
        go_roundw
        case rel => exact ⟨k + 1, by omega, by go_num, Lib.hid (HN.out hl), HB1.out⟩
        case measure => simp [intOf]; omega
    · have HD := Lib.hid (show idxI (isN nm) l = -1 from idx_none fun j x hj => HE.out j x (by have := (List.getElem?_eq_some_iff.1 hj).1; omega) hj)
      go_wp2
      go_ret
      exact ⟨ret_int (by rw [← HR.out, HD.out]), hbel⟩
end Go.Proofs.YtikdncmgppckfaaDoor
