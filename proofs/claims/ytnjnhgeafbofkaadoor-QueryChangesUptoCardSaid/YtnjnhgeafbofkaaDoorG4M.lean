import Derived.Test.YtnjnhgeafbofkaaDoorG3M
import Derived.Deep.RegionWith
/-
  The contract of slices.DeleteFunc, with the predicate of a name, at a row of pairs of the call's own: the pairs of other names, in order.
-/
namespace Go.Proofs.YtnjnhgeafbofkaaDoor
open Go.RowKit
theorem dropN_snoc (nm : ByteArray) (l : List Fd) (j : Nat) (h : j < l.length) : dropN nm (l.take (j + 1)) = dropN nm (l.take j) ++ (if isN nm l[j] then [] else [l[j]]) := by
  unfold dropN
  rw [take_snoc l j h, List.filter_append]
  congr 1
  cases hx : isN nm l[j] <;> simp [hx]
theorem dropN_none (nm : ByteArray) (l : List Fd) (h : ∀ (j : Nat) (x : Fd), l[j]? = some x → isN nm x = false) : dropN nm l = l := by
  unfold dropN
  rw [List.filter_eq_self]
  intro x hx
  obtain ⟨j, hj, rfl⟩ := List.getElem_of_mem hx
  rw [h j _ (getF hj)]; rfl
/-- between two rounds: k pairs are kept, those from j on are as they were -/
structure Mid (nm : ByteArray) (l D : List Fd) (k j : Nat) : Prop where
  len : D.length = l.length
  lt : k < j
  le : j ≤ l.length
  kept : D.take k = dropN nm (l.take j)
  high : D.drop j = l.drop j
theorem Mid.at {nm : ByteArray} {l D : List Fd} {k j : Nat} (h : Mid nm l D k j) (hj : j < l.length) : D[j]? = some l[j] := by
  have h0 : (D.drop j)[0]? = (l.drop j)[0]? := by rw [h.high]
  rw [List.getElem?_drop, List.getElem?_drop] at h0
  simpa [getF hj] using h0
theorem Mid.skip {nm : ByteArray} {l D : List Fd} {k j : Nat} (h : Mid nm l D k j) (hj : j < l.length) (hn : isN nm l[j] = true) : Mid nm l D k (j + 1) := by
  refine ⟨h.len, by have := h.lt; omega, by omega, ?_, ?_⟩
  · rw [dropN_snoc nm l j hj, hn, h.kept]; simp
  · rw [← List.drop_drop, ← List.drop_drop, h.high]
theorem Mid.keep {nm : ByteArray} {l D : List Fd} {k j : Nat} (h : Mid nm l D k j) (hj : j < l.length) (hn : isN nm l[j] = false) : Mid nm l (D.set k l[j]) (k + 1) (j + 1) := by
  have hk : k < D.length := by have := h.lt; have := h.len; omega
  refine ⟨by rw [List.length_set]; exact h.len, by have := h.lt; omega, by omega, ?_, ?_⟩
  · rw [dropN_snoc nm l j hj, hn, ← h.kept]
    rw [take_snoc _ k (by rw [List.length_set]; exact hk), List.take_set_of_le (Nat.le_refl k)]
    simp
  · have e : (D.set k l[j]).drop (j + 1) = D.drop (j + 1) := List.drop_set_of_lt (by have := h.lt; omega)
    rw [e, ← List.drop_drop, ← List.drop_drop, h.high]
theorem below_sets {B g : Nat} (hg : B ≤ g) {a : World} : ∀ (vs : List Value) (o : Nat) {w : World}, Below B a w → Below B a (w.setCells g o vs)
  | [], _, _, h => h
  | v :: vs, o, _, h => below_sets hg vs (o + 1) (h.setCell (p := ⟨g, o, none⟩) hg v)
set_option maxRecDepth 100000 in
set_option maxHeartbeats 4000000 in
theorem delete_is (nm : ByteArray) (bx B : Nat) (q : Option Addr) (cap : Nat) (l : List Fd) (hm : l.length ≤ 140737488355328) (w : World) (hv : OwnF w B (.slice q l.length cap) l) (hbx : Boxed w bx 9 (.string nm)) (hB : B ≤ w.heap.size) :
    Calls Tryd.prog 57 #[.slice q l.length cap, .func (.func 55) #[] #[.pointer (some ⟨bx, 0, none⟩)]] w fun e w' => (∃ q' cap', e = .returned (.slice q' (dropN nm l).length cap') ∧ OwnF w' B (.slice q' (dropN nm l).length cap') (dropN nm l)) ∧ Below B w w' := by
  obtain ⟨r, hr⟩ : ∃ r, idxI (isN nm) l = r := ⟨_, rfl⟩
  have HI := Lib.hid (indexNamed nm bx (.slice q l.length cap) l r hr hm w (lst_own hv) hbx)
  have HV := Lib.hid hv
  have HBX := Lib.hid hbx
  by_cases h0 : r < 0
  · have h1 := idxI_none (p := isN nm) (l := l) (by rw [hr]; exact h0)
    have hr1 : r = -1 := by rw [← hr]; exact h1.2
    have HD := Lib.hid (show dropN nm l = l from dropN_none nm l (fun j x hx => by
      have := List.find?_eq_none.1 h1.1 x (List.mem_of_getElem? hx)
      simpa using this))
    subst hr1
    clear hr h1 h0 hv hbx
    go_enter Tryd.func57, Tryd.ntmps57
    go_wp2_with (go_at_call 33; refine HI.out.mono ?_; rintro e w2 ⟨rfl, hb2⟩)
    go_ret
    rw [HD.out]
    exact ⟨⟨_, _, rfl, Ks.own_to HV.out hb2⟩, hb2.mono hB⟩
  · obtain ⟨i, hil, hri, _, hin, hpre⟩ := idxI_some (p := isN nm) (l := l) (by rw [hr]; omega)
    rw [hr] at hri
    subst hri
    obtain ⟨g, rest, rfl, _, hBg, hrow, hlc, hcm, hls⟩ := hv.row (by omega)
    have HROW := Lib.hid hrow
    have HLS := Lib.hid hls
    have HMID := Lib.hid (show Mid nm l l i (i + 1) from ⟨rfl, by omega, by omega, by
      rw [dropN_snoc nm l i hil, hin, dropN_none nm _ (fun j x hx => by
        have hji : j < i := by
          have := (List.getElem?_eq_some_iff.1 hx).1
          rw [List.length_take] at this; omega
        rw [List.getElem?_take_of_lt hji] at hx
        exact hpre j x hji hx)]
      simp, rfl⟩)
    have hne1 : ((i : Int) == -1) = false := beq_eq_false_iff_ne.2 (by omega)
    unfold maxLen at hcm
    have hgw := hrow.lt
    clear hr hv hbx hrow hls hin hpre h0
    go_enter Tryd.func57, Tryd.ntmps57
    go_wp2_with (go_at_call 33; refine HI.out.mono ?_; rintro e w2 ⟨rfl, hb2⟩; have HB2 := Lib.hid hb2; clear hb2)
    have hs2 := HB2.out.size
    go_loopw [5, 6] (fun s5 s6 wr => ∃ (k j : Nat) (D : List Fd), s5 = .int .i64 k ∧ s6 = .int .i64 j ∧ j ≤ l.length ∧ k < j ∧ Hid (Mid nm l D k j) ∧ Hid (RowF wr g rest D) ∧ Hid (Boxed wr bx 9 (.string nm)) ∧ Hid (Below B w wr)) (fun _ s6 _ => l.length - (intOf s6).toNat)
    case atStart => exact ⟨i, i + 1, l, rfl, by go_num, by omega, by omega, HMID, Lib.hid (HROW.out.to HB2.out), Lib.hid (Boxed.to' HBX.out HB2.out), Lib.hid (HB2.out.mono hB)⟩
    case round =>
      obtain ⟨k, j, D, rfl, rfl, hjl, hkj, HMI, HR, HBO, HBE⟩ := hrel
      have hsr := HBE.out.size
      by_cases hlt : j < l.length
      · have i1 : (j : Int) < (l.length : Int) := by omega
        have hat := HMI.out.at hlt
        have c0 := HR.out.c0 hat
        have c1 := HR.out.c1 hat
        have HSK := Lib.hid (HMI.out.skip hlt)
        have HKE := Lib.hid (HMI.out.keep hlt)
        have HDL := Lib.hid HMI.out.len
        clear hat
        generalize l[j] = x at *
        obtain ⟨x1, x2⟩ := x
        have HBA := Lib.hid (bnew wr (.cells #[.string x1, .string x2] 38))
        have HN := Lib.hid (named_is x1 x2 nm bx (wr.alloc (.cells #[.string x1, .string x2] 38)) (HBO.out.alloc _))
        have f7 : (wr.alloc (.cells #[.string x1, .string x2] 38)).cell? ⟨wr.heap.size, 0, none⟩ = some (.string x1) := cell_of_row _ _ 0 _ _ _ (heap_alloc_new wr _)
        have f8 : (wr.alloc (.cells #[.string x1, .string x2] 38)).cell? ⟨wr.heap.size, 1, none⟩ = some (.string x2) := cell_of_row _ _ 1 _ _ _ (heap_alloc_new wr _)
        have HF7 := Lib.hid (heap_alloc_new wr (.cells #[.string x1, .string x2] 38))
        cases hin : isN nm (x1, x2) with
        | true =>
          rw [hin] at HN
          go_wp2_with fail
          refine HN.out.mono ?_
          rintro e w4 ⟨rfl, hb4⟩
          have HB4 := Lib.hid (bel2 HBA.out hb4)
          clear hb4
          go_wp2
          go_roundw
          case rel => exact ⟨k, j + 1, D, rfl, by go_num, by omega, by omega, Lib.hid (HSK.out hin), Lib.hid (HR.out.to HB4.out), Lib.hid (Boxed.to' HBO.out HB4.out), Lib.hid (HBE.out.trans (HB4.out.mono (by omega)))⟩
          case measure => simp [intOf]; omega
        | false =>
          rw [hin] at HN
          have hkD : k < D.length := by have := HDL.out; omega
          obtain ⟨y, hy⟩ : ∃ y, D[k]? = some y := ⟨_, List.getElem?_eq_getElem hkD⟩
          go_wp2_with fail
          refine HN.out.mono ?_
          rintro e w4 ⟨rfl, hb4⟩
          have HB4 := Lib.hid (bel2 HBA.out hb4)
          have hR4 := HR.out.to HB4.out
          have d0 := hR4.c0 hy
          have d1 := hR4.c1 hy
          have e0 := hR4.f (k * 2)
          have e1 := hR4.f (k * 2 + 1)
          have v0 : w4.cell? ⟨wr.heap.size, 0, none⟩ = some (.string x1) := (hb4.cell (p := ⟨wr.heap.size, 0, none⟩) (by simp)).trans f7
          have v1 : w4.cell? ⟨wr.heap.size, 1, none⟩ = some (.string x2) := (hb4.cell (p := ⟨wr.heap.size, 1, none⟩) (by simp)).trans f8
          have HR4 := Lib.hid hR4
          have HBO4 := Lib.hid (Boxed.to' HBO.out HB4.out)
          clear hb4 hR4 f7 f8 hy
          go_wp2
          go_roundw
          case rel =>
            have hgb : bx ≠ g := by
              intro e
              subst e
              have h1 : w4.heap[bx]? = some (.cells #[.string nm] 9 (0, 0)) := HBO4.out
              have h2 : w4.heap[bx]? = some (.cells _ 38 (0, 0)) := HR4.out
              rw [h1] at h2
              injection h2 with h2
              injection h2 with _ h2
              cases h2
            exact ⟨k + 1, j + 1, D.set k (x1, x2), by go_num, by go_num, by omega, by omega, Lib.hid (HKE.out hin), Lib.hid (HR4.out.store hkD (x1, x2)),
              Lib.hid ((Below.heap_setCell _ _ _ _ hgb).trans ((Below.heap_setCell _ _ _ _ hgb).trans HBO4.out)), Lib.hid (bel_set2 (HBE.out.trans (HB4.out.mono (by omega))) hBg _ _ _ _)⟩
          case measure => simp [intOf]; omega
      · obtain rfl : j = l.length := by omega
        have HDL := Lib.hid HMI.out.len
        obtain ⟨vs, hcl⟩ : ∃ vs, ∀ ty, (Builtin.clear_ #[22] ty #[.slice (some ⟨g, k * 2, none⟩) (l.length - k : Nat) (cap - k)]).run Tryd.prog wr = .ok (.tuple #[]) (wr.setCells g (k * 2) vs) := by
          obtain ⟨vs, h⟩ := run_clear2 wr g k (l.length - k) (cap - k) rest D HR.out (by omega) (by have := HDL.out; omega) 0
          exact ⟨vs, fun ty => h⟩
        have HKD := Lib.hid (show D.take k = dropN nm l ∧ (dropN nm l).length = k from by
          have h1 := HMI.out.kept
          rw [List.take_of_length_le (Nat.le_refl _)] at h1
          exact ⟨h1, by rw [← h1, List.length_take_of_le (by have := HDL.out; omega)]⟩)
        have c3 : (k : Int) ≤ (l.length : Int) := by omega
        go_wp2
        go_ret
        obtain ⟨cs', h1, h2, h3⟩ := has_setCells vs (k * 2) wr _ HR.out
        have hcs : (encFs D ++ rest).length = cap * 2 := by
          have := HLS.out
          rw [List.length_append, Ks.encFs_len] at this ⊢
          rw [HDL.out]; exact this
        rw [HKD.out.2]
        refine ⟨⟨_, _, rfl, Ks.encFs_len _, .inr ⟨g, cap, cs', by rw [HKD.out.2], hBg, h1, by rw [HKD.out.2]; omega, by unfold maxLen; omega, by rw [h2]; simpa using hcs, ?_⟩⟩, below_sets hBg _ _ HBE.out⟩
        rw [HKD.out.2, h3, List.toList_toArray, encFs_take D rest k (by have := HDL.out; omega), HKD.out.1]
end Go.Proofs.YtnjnhgeafbofkaaDoor
/-
  The contracts of query's without, fresh and Drop, at pairs.
-/
namespace Go.Proofs.YtnjnhgeafbofkaaDoor
open Go.RowKit
/-- texts that may be cloned -/
def Fit (l : List Fd) : Prop := ∀ x ∈ l, x.1.size ≤ 281474976710656 ∧ x.2.size ≤ 281474976710656
theorem Fit.drop {nm : ByteArray} {l : List Fd} (h : Fit l) : Fit (dropN nm l) := fun x hx => h x (List.mem_filter.1 hx).1
set_option maxHeartbeats 1000000 in
theorem without_is (nm : ByteArray) (bx : Nat) (q : Option Addr) (cap : Nat) (l : List Fd) (hn : q = none → cap = 0) (hm : l.length * 32 ≤ 140737488355328) (w : World) (hv : Lst w (.slice q l.length cap) l) (hbx : Boxed w bx 9 (.string nm)) :
    Calls Tryd.prog 37 #[.slice q l.length cap, .func (.func 55) #[] #[.pointer (some ⟨bx, 0, none⟩)]] w fun e w' => (∃ q' cap', e = .returned (.slice q' (dropN nm l).length cap') ∧ OwnF w' w.heap.size (.slice q' (dropN nm l).length cap') (dropN nm l)) ∧ Below w.heap.size w w' := by
  have HC := Lib.hid (sclone_is q l cap hn hm w hv)
  have HBX := Lib.hid hbx
  clear hv hbx hn
  go_enter Tryd.func37, Tryd.ntmps37
  go_wp2_with fail
  refine HC.out.mono ?_
  rintro e w1 ⟨⟨q1, c1, rfl, ho1⟩, hb1⟩
  have HO1 := Lib.hid ho1
  have HB1 := Lib.hid hb1
  clear ho1 hb1
  go_wp2_with fail
  refine (delete_is nm bx w.heap.size q1 c1 l (by omega) w1 HO1.out (Boxed.to' HBX.out HB1.out) HB1.out.size).mono ?_
  rintro e w2 ⟨⟨q2, c2, rfl, ho2⟩, hb2⟩
  have HO2 := Lib.hid ho2
  have HB2 := Lib.hid (HB1.out.trans hb2)
  clear ho2 hb2
  go_wp2
  go_ret
  exact ⟨⟨_, _, rfl, HO2.out⟩, HB2.out⟩
theorem set_self (l : List Fd) (k : Nat) (h : k < l.length) : l.set k l[k] = l := List.set_getElem_self h
set_option maxRecDepth 100000 in
set_option maxHeartbeats 8000000 in
theorem fresh_is (B : Nat) (q : Option Addr) (cap : Nat) (l : List Fd) (hf : Fit l) (hm : l.length ≤ 140737488355328) (w : World) (hv : OwnF w B (.slice q l.length cap) l) (hB : B ≤ w.heap.size) :
    Calls Tryd.prog 36 #[.slice q l.length cap] w fun e w' => (e = .returned (.slice q l.length cap) ∧ OwnF w' B (.slice q l.length cap) l) ∧ Below B w w' := by
  have HV := Lib.hid hv
  have HF := Lib.hid hf
  by_cases h0 : l.length = 0
  · have hl : l = [] := List.eq_nil_of_length_eq_zero h0
    subst hl
    clear hv hf h0
    go_enter Tryd.func36, Tryd.ntmps36
    go_wp2_with fail
    go_loopw [7] (fun s7 wr => s7 = .int .i64 0 ∧ wr = w) (fun _ _ => 0)
    case atStart => exact ⟨rfl, rfl⟩
    case round =>
      obtain ⟨rfl, rfl⟩ := hrel
      go_wp2
      go_ret
      exact ⟨⟨rfl, HV.out⟩, Below.refl _ _⟩
  · obtain ⟨g, rest, rfl, _, hBg, hrow, hlc, hcm, hls⟩ := hv.row (by omega)
    have HROW := Lib.hid hrow
    have HLS := Lib.hid hls
    unfold maxLen at hcm
    clear hv hf hrow hls
    go_enter Tryd.func36, Tryd.ntmps36
    go_wp2_with fail
    go_loopw [7] (fun s7 wr => ∃ k : Nat, k ≤ l.length ∧ s7 = .int .i64 k ∧ Hid (RowF wr g rest l) ∧ Hid (Below B w wr)) (fun s7 _ => l.length - (intOf s7).toNat)
    case atStart => exact ⟨0, by omega, rfl, HROW, Lib.hid (Below.refl _ _)⟩
    case round =>
      obtain ⟨k, hk, rfl, HR, HBE⟩ := hrel
      by_cases hlt : k < l.length
      · have i1 : (k : Int) < (l.length : Int) := by omega
        have hat := getF hlt
        have c0 := HR.out.c0 hat
        have c1 := HR.out.c1 hat
        have HSS := Lib.hid (set_self l k hlt)
        have HFX := Lib.hid (HF.out _ (List.getElem_mem hlt))
        have HAT := Lib.hid hat
        clear hat
        generalize l[k] = x at *
        obtain ⟨x1, x2⟩ := x
        have HA := Lib.hid (heap_alloc_new wr (.cells #[.string x1, .string x2] 38))
        have f0 : (wr.alloc (.cells #[.string x1, .string x2] 38)).drew.cell? ⟨wr.heap.size, 0, none⟩ = some (.string x1) := cell_of_row _ _ 0 _ _ _ HA.out
        have f1 : (wr.alloc (.cells #[.string x1, .string x2] 38)).drew.cell? ⟨wr.heap.size, 1, none⟩ = some (.string x2) := cell_of_row _ _ 1 _ _ _ HA.out
        have HC1 := Lib.hid (fun W : World => clone_is x1 W HFX.out.1)
        have HC2 := Lib.hid (fun W : World => clone_is x2 W HFX.out.2)
        have HBA := Lib.hid (show Below wr.heap.size wr (wr.alloc (.cells #[.string x1, .string x2] 38)).drew from (bnew wr _).drew)
        have hsr := HBE.out.size
        clear HV HF HROW
        go_wp2_with fail
        go_region_with (first
          | (go_at_call 35; refine (HC1.out _).mono ?_; rintro e w3 ⟨rfl, hb3⟩; have d1 : w3.cell? ⟨wr.heap.size, 1, none⟩ = some (.string x2) := (hb3.cell (p := ⟨wr.heap.size, 1, none⟩) (by simp)).trans f1; have HB3 := Lib.hid (HBA.out.trans (hb3.mono HBA.out.size)); clear hb3)
          | (go_at_call 35; refine (HC2.out _).mono ?_; rintro e w4 ⟨rfl, hb4⟩; have HB4 := Lib.hid (HB3.out.trans (hb4.mono HB3.out.size)); clear hb4; have hR4 := HR.out.to HB4.out; have t0 := hR4.c0 HAT.out; have t1 := hR4.c1 HAT.out; have e0 := hR4.f (k * 2); have e1 := hR4.f (k * 2 + 1); have HR4 := Lib.hid hR4; clear hR4))
        all_goals
          go_wp2
          go_roundw
          case rel => exact ⟨k + 1, by omega, by go_num, Lib.hid (by have := HR4.out.store hlt (x1, x2); rw [HSS.out] at this; exact this), Lib.hid (bel_set2 (HBE.out.trans (HB4.out.mono (by omega))) hBg _ _ _ _)⟩
          case measure => simp [intOf]; omega
      · obtain rfl : k = l.length := by omega
        go_wp2
        go_ret
        exact ⟨⟨rfl, by have := HR.out.own hBg (Nat.le_refl _) hlc (by unfold maxLen; omega) HLS.out; rw [List.take_of_length_le (Nat.le_refl _)] at this; exact this⟩, HBE.out⟩
set_option maxHeartbeats 1000000 in
theorem drop_is (nm : ByteArray) (q : Option Addr) (cap : Nat) (l : List Fd) (hn : q = none → cap = 0) (hm : l.length * 32 ≤ 140737488355328) (hf : Fit l) (w : World) (hv : Lst w (.slice q l.length cap) l) :
    Calls Tryd.prog 19 #[.slice q l.length cap, .string nm] w fun e w' => (∃ q' cap', e = .returned (.slice q' (dropN nm l).length cap') ∧ OwnF w' w.heap.size (.slice q' (dropN nm l).length cap') (dropN nm l)) ∧ Below w.heap.size w w' := by
  have HB0 := Lib.hid (bnew w (.cells #[.string nm] 9))
  have HN := Lib.hid (mk_named nm w)
  have HW := Lib.hid (without_is nm w.heap.size q cap l hn hm (w.alloc (.cells #[.string nm] 9)) (hv.below HB0.out) (Boxed.new w 9 _))
  have HF := Lib.hid (Fit.drop (nm := nm) hf)
  have hdl : (dropN nm l).length ≤ l.length := List.length_filter_le _ _
  clear hv hn hf
  go_enter Tryd.func19, Tryd.ntmps19
  go_wp2_with (go_at_call 34; refine HN.out.mono ?_; rintro e w1 ⟨rfl, rfl⟩)
  refine HW.out.mono ?_
  rintro e w2 ⟨⟨q2, c2, rfl, ho2⟩, hb2⟩
  have HO2 := Lib.hid ho2
  have HB2 := Lib.hid (HB0.out.trans (hb2.mono (by simp)))
  clear ho2 hb2
  go_wp2_with fail
  refine (fresh_is w.heap.size q2 c2 (dropN nm l) HF.out (by omega) w2 ⟨HO2.out.1, HO2.out.2.imp id (fun ⟨g, cap, cur, h1, h2, h3⟩ => ⟨g, cap, cur, h1, by simp at h2; omega, h3⟩)⟩ HB2.out.size).mono ?_
  rintro e w3 ⟨⟨rfl, ho3⟩, hb3⟩
  have HO3 := Lib.hid ho3
  have HB3 := Lib.hid (HB2.out.trans hb3)
  clear ho3 hb3
  go_wp2
  go_ret
  exact ⟨⟨_, _, rfl, HO3.out⟩, HB3.out⟩
end Go.Proofs.YtnjnhgeafbofkaaDoor
