import Derived.Test.YtikdncmgppckfaaDoorG3
/-
  The contract of slices.DeleteFunc, with the predicate of a name, at a row of pairs of the call's own: the pairs of other names, in order.
-/
namespace Go.Proofs.YtikdncmgppckfaaDoor
open Go.RowKit
theorem dropN_snoc (nm : ByteArray) (l : List Fd) (j : Nat) (h : j < l.length) : dropN nm (l.take (j + 1)) = dropN nm (l.take j) ++ (if isN nm l[j] then [] else [l[j]]) := by
  unfold dropN
  rw [take_snoc l j h, List.filter_append]
  congr 1
  cases hx : isN nm l[j] <;> simp [hx]
theorem dropN_none (nm : ByteArray) (l : List Fd) (h : ∀ (j : Nat) (x : Fd), l[j]? = some x → isN nm x = false) : dropN nm l = l := by
  unfold dropN
  rw [List.filter_eq_self]
  intro x hx
  obtain ⟨j, hj, rfl⟩ := List.getElem_of_mem hx
  rw [h j _ (getF hj)]; rfl
/-- between two rounds: k pairs are kept, those from j on are as they were -/
structure Mid (nm : ByteArray) (l D : List Fd) (k j : Nat) : Prop where
  len : D.length = l.length
  lt : k < j
  le : j ≤ l.length
  kept : D.take k = dropN nm (l.take j)
  high : D.drop j = l.drop j
theorem Mid.at {nm : ByteArray} {l D : List Fd} {k j : Nat} (h : Mid nm l D k j) (hj : j < l.length) : D[j]? = some l[j] := by
  have h0 : (D.drop j)[0]? = (l.drop j)[0]? := by rw [h.high]
  rw [List.getElem?_drop, List.getElem?_drop] at h0
  simpa [getF hj] using h0
theorem Mid.skip {nm : ByteArray} {l D : List Fd} {k j : Nat} (h : Mid nm l D k j) (hj : j < l.length) (hn : isN nm l[j] = true) : Mid nm l D k (j + 1) := by
  refine ⟨h.len, by have := h.lt; omega, by omega, ?_, ?_⟩
  · rw [dropN_snoc nm l j hj, hn, h.kept]; simp
  · rw [← List.drop_drop, ← List.drop_drop, h.high]
theorem Mid.keep {nm : ByteArray} {l D : List Fd} {k j : Nat} (h : Mid nm l D k j) (hj : j < l.length) (hn : isN nm l[j] = false) : Mid nm l (D.set k l[j]) (k + 1) (j + 1) := by
  have hk : k < D.length := by have := h.lt; have := h.len; omega
  refine ⟨by rw [List.length_set]; exact h.len, by have := h.lt; omega, by omega, ?_, ?_⟩
  · rw [dropN_snoc nm l j hj, hn, ← h.kept]
    rw [take_snoc _ k (by rw [List.length_set]; exact hk), List.take_set_of_le (Nat.le_refl k)]
    simp
  · have e : (D.set k l[j]).drop (j + 1) = D.drop (j + 1) := List.drop_set_of_lt (by have := h.lt; omega)
    rw [e, ← List.drop_drop, ← List.drop_drop, h.high]
theorem below_sets {B g : Nat} (hg : B ≤ g) {a : World} : ∀ (vs : List Value) (o : Nat) {w : World}, Below B a w → Below B a (w.setCells g o vs)
  | [], _, _, h => h
  | v :: vs, o, _, h => below_sets hg vs (o + 1) (h.setCell (p := ⟨g, o, none⟩) hg v)
set_option maxRecDepth 100000 in
set_option maxHeartbeats 4000000 in
theorem delete_is (nm : ByteArray) (bx B : Nat) (q : Option Addr) (cap : Nat) (l : List Fd) (hm : l.length ≤ 140737488355328) (w : World) (hv : OwnF w B (.slice q l.length cap) l) (hbx : Boxed w bx 9 (.string nm)) (hB : B ≤ w.heap.size) :
    Calls Tryd.prog 57 #[.slice q l.length cap, .func (.func 55) #[] #[.pointer (some ⟨bx, 0, none⟩)]] w fun e w' => (∃ q' cap', e = .returned (.slice q' (dropN nm l).length cap') ∧ OwnF w' B (.slice q' (dropN nm l).length cap') (dropN nm l)) ∧ Below B w w' := by
  obtain ⟨r, hr⟩ : ∃ r, idxI (isN nm) l = r := ⟨_, rfl⟩
  have HI := Lib.hid (indexNamed nm bx (.slice q l.length cap) l r hr hm w (lst_own hv) hbx)
  have HV := Lib.hid hv
  have HBX := Lib.hid hbx
  by_cases h0 : r < 0
  · have h1 := idxI_none (p := isN nm) (l := l) (by rw [hr]; exact h0)
    have hr1 : r = -1 := by rw [← hr]; exact h1.2
    have HD := Lib.hid (show dropN nm l = l from dropN_none nm l (fun j x hx => by
      have := List.find?_eq_none.1 h1.1 x (List.mem_of_getElem? hx)
      simpa using this))
    subst hr1
    clear hr h1 h0 hv hbx
    go_enter Tryd.func57, Tryd.ntmps57
    go_wp2_with (go_at_call 33; refine HI.out.mono ?_; rintro e w2 ⟨rfl, hb2⟩)
    go_ret
    rw [HD.out]
    exact ⟨⟨_, _, rfl, Ks.own_to HV.out hb2⟩, hb2.mono hB⟩
  · obtain ⟨i, hil, hri, _, hin, hpre⟩ := idxI_some (p := isN nm) (l := l) (by rw [hr]; omega)
    rw [hr] at hri
    subst hri
    obtain ⟨g, rest, rfl, _, hBg, hrow, hlc, hcm, hls⟩ := hv.row (by omega)
    have HROW := Lib.hid hrow
    have HLS := Lib.hid hls
    have HMID := Lib.hid (show Mid nm l l i (i + 1) from ⟨rfl, by omega, by omega, by
      rw [dropN_snoc nm l i hil, hin, dropN_none nm _ (fun j x hx => by
        have hji : j < i := by
          have := (List.getElem?_eq_some_iff.1 hx).1
          rw [List.length_take] at this; omega
        rw [List.getElem?_take_of_lt hji] at hx
        exact hpre j x hji hx)]
      simp, rfl⟩)
    have hne1 : ((i : Int) == -1) = false := beq_eq_false_iff_ne.2 (by omega)
    unfold maxLen at hcm
    have hgw := hrow.lt
    clear hr hv hbx hrow hls hin hpre h0
    go_enter Tryd.func57, Tryd.ntmps57
    go_wp2_with (go_at_call 33; refine HI.out.mono ?_; rintro e w2 ⟨rfl, hb2⟩; have HB2 := Lib.hid hb2; clear hb2)
    have hs2 := HB2.out.size
    go_loopw [5, 6] (fun s5 s6 wr => ∃ (k j : Nat) (D : List Fd), s5 = .int .i64 k ∧ s6 = .int .i64 j ∧ j ≤ l.length ∧ k < j ∧ Hid (Mid nm l D k j) ∧ Hid (RowF wr g rest D) ∧ Hid (Boxed wr bx 9 (.string nm)) ∧ Hid (Below B w wr)) (fun _ s6 _ => l.length - (intOf s6).toNat)
    case atStart => exact ⟨i, i + 1, l, rfl, by go_num, by omega, by omega, HMID, Lib.hid (HROW.out.to HB2.out), Lib.hid (Boxed.to' HBX.out HB2.out), Lib.hid (HB2.out.mono hB)⟩
    case round =>
      obtain ⟨k, j, D, rfl, rfl, hjl, hkj, HMI, HR, HBO, HBE⟩ := hrel
      have hsr := HBE.out.size
      by_cases hlt : j < l.length
      · have i1 : (j : Int) < (l.length : Int) := by omega
        have hat := HMI.out.at hlt
        have c0 := HR.out.c0 hat
        have c1 := HR.out.c1 hat
        have HSK := Lib.hid (HMI.out.skip hlt)
        have HKE := Lib.hid (HMI.out.keep hlt)
        have HDL := Lib.hid HMI.out.len
        clear hat
        generalize l[j] = x at *
        obtain ⟨x1, x2⟩ := x
        have HBA := Lib.hid (bnew wr (.cells #[.string x1, .string x2] 38))
        have HN := Lib.hid (named_is x1 x2 nm bx (wr.alloc (.cells #[.string x1, .string x2] 38)) (HBO.out.alloc _))
        have f7 : (wr.alloc (.cells #[.string x1, .string x2] 38)).cell? ⟨wr.heap.size, 0, none⟩ = some (.string x1) := cell_of_row _ _ 0 _ _ _ (heap_alloc_new wr _)
        have f8 : (wr.alloc (.cells #[.string x1, .string x2] 38)).cell? ⟨wr.heap.size, 1, none⟩ = some (.string x2) := cell_of_row _ _ 1 _ _ _ (heap_alloc_new wr _)
        have HF7 := Lib.hid (heap_alloc_new wr (.cells #[.string x1, .string x2] 38))
        cases hin : isN nm (x1, x2) with
        | true =>
          rw [hin] at HN
          go_wp2_with fail
          refine HN.out.mono ?_
          rintro e w4 ⟨rfl, hb4⟩
          have HB4 := Lib.hid (bel2 HBA.out hb4)
          clear hb4
          go_wp2
          go_roundw
          case rel => exact ⟨k, j + 1, D, rfl, by go_num, by omega, by omega, Lib.hid (HSK.out hin), Lib.hid (HR.out.to HB4.out), Lib.hid (Boxed.to' HBO.out HB4.out), Lib.hid (HBE.out.trans (HB4.out.mono (by omega)))⟩
          case measure => simp [intOf]; omega
        | false =>
          rw [hin] at HN
          have hkD : k < D.length := by have := HDL.out; omega
          obtain ⟨y, hy⟩ : ∃ y, D[k]? = some y := ⟨_, List.getElem?_eq_getElem hkD⟩
          go_wp2_with fail
          refine HN.out.mono ?_
          rintro e w4 ⟨rfl, hb4⟩
          have HB4 := Lib.hid (bel2 HBA.out hb4)
          have hR4 := HR.out.to HB4.out
          have d0 := hR4.c0 hy
          have d1 := hR4.c1 hy
          have e0 := hR4.f (k * 2)
          have e1 := hR4.f (k * 2 + 1)
          have v0 : w4.cell? ⟨wr.heap.size, 0, none⟩ = some (.string x1) := (hb4.cell (p := ⟨wr.heap.size, 0, none⟩) (by simp)).trans f7
          have v1 : w4.cell? ⟨wr.heap.size, 1, none⟩ = some (.string x2) := (hb4.cell (p := ⟨wr.heap.size, 1, none⟩) (by simp)).trans f8
          have HR4 := Lib.hid hR4
          have HBO4 := Lib.hid (Boxed.to' HBO.out HB4.out)
          clear hb4 hR4 f7 f8 hy
          go_wp2
          go_roundw
          case rel =>
            have hgb : bx ≠ g := by
              intro e
              subst e
              have h1 : w4.heap[bx]? = some (.cells #[.string nm] 9 (0, 0)) := HBO4.out
              have h2 : w4.heap[bx]? = some (.cells _ 38 (0, 0)) := HR4.out
              rw [h1] at h2
              injection h2 with h2
              injection h2 with _ h2
              cases h2
            exact ⟨k + 1, j + 1, D.set k (x1, x2), by go_num, by go_num, by omega, by omega, Lib.hid (HKE.out hin), Lib.hid (HR4.out.store hkD (x1, x2)),
              Lib.hid ((Below.heap_setCell _ _ _ _ hgb).trans ((Below.heap_setCell _ _ _ _ hgb).trans HBO4.out)), Lib.hid (bel_set2 (HBE.out.trans (HB4.out.mono (by omega))) hBg _ _ _ _)⟩
          case measure => simp [intOf]; omega
      · obtain rfl : j = l.length := by omega
        have HDL := Lib.hid HMI.out.len
        obtain ⟨vs, hcl⟩ : ∃ vs, ∀ ty, (Builtin.clear_ #[22] ty #[.slice (some ⟨g, k * 2, none⟩) (l.length - k : Nat) (cap - k)]).run Tryd.prog wr = .ok (.tuple #[]) (wr.setCells g (k * 2) vs) := by
          obtain ⟨vs, h⟩ := run_clear2 wr g k (l.length - k) (cap - k) rest D HR.out (by omega) (by have := HDL.out; omega) 0
          exact ⟨vs, fun ty => h⟩
        have HKD := Lib.hid (show D.take k = dropN nm l ∧ (dropN nm l).length = k from by
          have h1 := HMI.out.kept
          rw [List.take_of_length_le (Nat.le_refl _)] at h1
          exact ⟨h1, by rw [← h1, List.length_take_of_le (by have := HDL.out; omega)]⟩)
        have c3 : (k : Int) ≤ (l.length : Int) := by omega
        go_wp2
        go_ret
        obtain ⟨cs', h1, h2, h3⟩ := has_setCells vs (k * 2) wr _ HR.out
        have hcs : (encFs D ++ rest).length = cap * 2 := by
          have := HLS.out
          rw [List.length_append, Ks.encFs_len] at this ⊢
          rw [HDL.out]; exact this
        rw [HKD.out.2]
        refine ⟨⟨_, _, rfl, Ks.encFs_len _, .inr ⟨g, cap, cs', by rw [HKD.out.2], hBg, h1, by rw [HKD.out.2]; omega, by unfold maxLen; omega, by rw [h2]; simpa using hcs, ?_⟩⟩, below_sets hBg _ _ HBE.out⟩
        rw [HKD.out.2, h3, List.toList_toArray, encFs_take D rest k (by have := HDL.out; omega), HKD.out.1]
end Go.Proofs.YtikdncmgppckfaaDoor
