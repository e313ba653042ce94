import Derived.Test.YtikdncmgppckfaaDoorGF
import Derived.Test.YtikdncmgppckfaaDoorF6
/-
  The contract of the document's Same: it answers whether two lists of pairs are one.
-/
namespace Go.Proofs.YtikdncmgppckfaaDoor
open Go.RowKit
theorem get_neF {la lb : List Fd} {k : Nat} (h1 : k < la.length) (h2 : k < lb.length) (h : la[k] ≠ lb[k]) : la ≠ lb := by
  intro e; subst e; exact h rfl
theorem ext_listsF {la lb : List Fd} (hl : la.length = lb.length) (h : ∀ j : Nat, j < la.length → la[j]? = lb[j]?) : la = lb := by
  apply List.ext_getElem? 
  intro j
  by_cases hj : j < la.length
  · exact h j hj
  · rw [List.getElem?_eq_none (by omega), List.getElem?_eq_none (by omega)]
set_option maxHeartbeats 1000000 in
theorem same_pairs (va vb : Value) (la lb : List Fd) (hm : la.length ≤ 140737488355328) (hm2 : lb.length ≤ 140737488355328) (w : World) (ha : Lst w va la) (hb : Lst w vb lb) :
    Calls Tryd.prog 14 #[va, vb] w fun e w' => e = .returned (.bool (decide (la = lb))) ∧ Below w.heap.size w w' := by
  obtain ⟨p, cap, rfl, hA⟩ := ha
  obtain ⟨q, cap', rfl, hB⟩ := hb
  have HA := Lib.hid hA
  have HB := Lib.hid hB
  clear hA hB
  by_cases hl : la.length = lb.length
  · have hl2 : ((la.length : Int) != (lb.length : Int)) = false := by simp [hl]
    have HL := Lib.hid hl
    clear hl
    go_enter Tryd.func14, Tryd.ntmps14
    go_wp2_with fail
    go_loopw [13] (fun i wr => ∃ k : Nat, k ≤ la.length ∧ i = .int .i64 k ∧ Hid (∀ j : Nat, j < k → la[j]? = lb[j]?) ∧ Below w.heap.size w wr) (fun i _ => la.length - (intOf i).toNat)
    case atStart => exact ⟨0, by omega, rfl, Lib.hid (by intro j hj; omega), Below.refl _ _⟩
    case round =>
      obtain ⟨k, hk, rfl, HE, hbel⟩ := hrel
      by_cases hlt : k < la.length
      · obtain ⟨g, o, rfl, hg, hx, hy⟩ := HA.out k la[k] (getF hlt)
        have hlt2 : k < lb.length := by have := HL.out; omega
        obtain ⟨g', o', rfl, hg', hx', hy'⟩ := HB.out k lb[k] (getF hlt2)
        have c1 := (hbel.cell (p := ⟨g, o + k * 2, none⟩) hg).trans hx
        have c2 := (hbel.cell (p := ⟨g, o + k * 2 + 1, none⟩) hg).trans hy
        have c3 := (hbel.cell (p := ⟨g', o' + k * 2, none⟩) hg').trans hx'
        have c4 := (hbel.cell (p := ⟨g', o' + k * 2 + 1, none⟩) hg').trans hy'
        have i1 : (k : Int) < (la.length : Int) := by omega
        have i2 : (k : Int) < (lb.length : Int) := by omega
        have HN := Lib.hid (get_neF hlt hlt2)
        have HS := Lib.hid (show la[k] = lb[k] → ∀ j : Nat, j < k + 1 → la[j]? = lb[j]? from fun e j hj => by
          by_cases hjk : j = k
          · subst hjk; rw [getF hlt, getF hlt2, e]
          · exact HE.out j (by omega))
        clear hx hy hx' hy'
        by_cases hxy : la[k] = lb[k]
        · have HS2 := Lib.hid (HS.out hxy)
          clear HS HN HE
          rw [← hxy] at c3 c4
          generalize la[k] = x at *
          obtain ⟨x1, x2⟩ := x
          clear hxy
          go_wp2_with fail
          go_quiet (fail)
          go_wp2
          go_roundw
          case rel =>
            exact ⟨k + 1, by omega, by go_num, HS2, below_dn hbel _⟩
          case measure => simp [intOf]; omega
        · have HD := Lib.hid (show decide (la = lb) = false from decide_eq_false (HN.out hxy))
          clear HS HN HE
          generalize la[k] = x at *
          generalize lb[k] = y at *
          obtain ⟨x1, x2⟩ := x
          obtain ⟨y1, y2⟩ := y
          by_cases h1 : x1 = y1
          · subst h1
            have h2 : x2 ≠ y2 := fun e => hxy (by rw [e])
            have b2 : (x2.toList == y2.toList) = false := (Lib.bytes_beq_false_iff x2 y2).2 h2
            clear hxy h2
            go_wp2_with fail
            go_quiet (fail)
            go_wp2
            go_ret
            exact ⟨by rw [HD.out]; rfl, below_dn hbel _⟩
          · have b1 : (x1.toList == y1.toList) = false := (Lib.bytes_beq_false_iff x1 y1).2 h1
            clear hxy h1
            go_wp2_with fail
            go_quiet (fail)
            go_wp2
            go_ret
            exact ⟨by rw [HD.out]; rfl, below_dn hbel _⟩
      · have HD := Lib.hid (show decide (la = lb) = true from decide_eq_true (ext_listsF HL.out (fun j hj => HE.out j (by omega))))
        go_wp2
        go_ret
        exact ⟨by rw [HD.out]; rfl, hbel⟩
  · have hl2 : ((la.length : Int) != (lb.length : Int)) = true := by simp; omega
    have HD := Lib.hid (show decide (la = lb) = false from decide_eq_false (fun e => hl (by rw [e])))
    go_enter Tryd.func14, Tryd.ntmps14
    go_wp2
    go_ret
    exact ⟨by rw [HD.out]; rfl, Below.refl _ _⟩
end Go.Proofs.YtikdncmgppckfaaDoor
