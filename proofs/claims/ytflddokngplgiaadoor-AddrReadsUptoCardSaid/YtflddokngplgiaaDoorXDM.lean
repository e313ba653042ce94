/-
  The document's V4.
-/
import Derived.Test.YtflddokngplgiaaDoorXCM
namespace Go.Proofs.YtflddokngplgiaaDoor
open Go.RowKit
theorem rn_none {l : List UInt8} (h : refN l = none) : numO l = none := by
  rw [refN_num] at h
  cases hn : numO l with
  | none => rfl
  | some m => rw [hn] at h; cases h
theorem rn_some {l : List UInt8} {m : Nat} (h : refN l = some m) : m ≤ 1099511627776 ∧ ∃ m', numO l = some m' ∧ (m < 1099511627776 → m' = m) ∧ (1099511627776 ≤ m → 1099511627776 ≤ m') := by
  rw [refN_num] at h
  cases hn : numO l with
  | none => rw [hn] at h; cases h
  | some k =>
    rw [hn] at h
    simp only [Option.map_some, Option.some.injEq] at h
    exact ⟨by omega, k, rfl, by omega, by omega⟩
theorem v4_ps {l : List UInt8} {ps : List (List UInt8)} (h : partsAt 46 (noDot l) = ps) (h4 : ps.length ≤ 4) : v4O l = sum4 0 ps := by
  unfold v4O v4P
  rw [h, if_pos h4]
def PaC (s : ByteArray) (ps : List (List UInt8)) : Prop := ∀ W : World, Calls Tryd.prog 26 #[.string s] W fun e w' => (∃ v, e = .returned v ∧ WStrs w' v ps) ∧ Below W.heap.size W w'
set_option maxHeartbeats 2000000 in
set_option maxRecDepth 100000 in
theorem rv4_many (s : ByteArray) (ps : List (List UInt8)) (hP : PaC s ps) (h4 : 4 < ps.length) (h5 : ps.length ≤ 2097153) (w : World) : Calls Tryd.prog 11 #[.string s] w fun e w' => e = ansE none ∧ Below w.heap.size w w' := by
  have HP := Lib.hid (hP w)
  obtain ⟨n, hn⟩ : ∃ n, ps.length = n := ⟨_, rfl⟩
  rw [hn] at h4 h5
  have HN := Lib.hid hn
  have b1 : (4 : Int) < (n : Int) := by omega
  have b2 : decide ((4 : Int) < (n : Int)) = true := decide_eq_true b1
  clear hP hn
  go_enter Tryd.func11, Tryd.ntmps11
  go_wp2_with fail
  refine HP.out.mono ?_
  rintro e w1 ⟨⟨v, rfl, hst⟩, hb1⟩
  have HB1 := Lib.hid hb1
  obtain ⟨p, cap, rfl, hc⟩ := hst
  rw [HN.out]
  clear hc hb1
  go_wp2_with fail
  go_ret2
  exact ⟨rfl, HB1.out⟩
set_option maxHeartbeats 4000000 in
set_option maxRecDepth 100000 in
theorem rv4_1 (s : ByteArray) (ps : List (List UInt8)) (hP : PaC s ps) (hz : ∀ p ∈ ps, p.length ≤ 2097152) (h5 : ps.length = 1) (w : World) : Calls Tryd.prog 11 #[.string s] w fun e w' => e = ansE (sum4 0 ps) ∧ Below w.heap.size w w' := by
  have HP := Lib.hid (hP w)
  have H5 := Lib.hid h5
  have HZ := Lib.hid hz
  clear hP h5 hz
  go_enter Tryd.func11, Tryd.ntmps11
  go_wp2_with fail
  refine HP.out.mono ?_
  rintro e w1 ⟨⟨v, rfl, hst⟩, hb1⟩
  have HB1 := Lib.hid hb1
  have HST := Lib.hid hst
  obtain ⟨p, cap, rfl, hc⟩ := hst
  obtain ⟨g, rfl, hg, -⟩ := hc 0 (ps[0]'(by rw [H5.out]; omega)) (List.getElem?_eq_getElem (by rw [H5.out]; omega))
  have HC := Lib.hid (show ∀ (i : Nat) (h : i < ps.length), w1.cell? ⟨g, i, none⟩ = some (.string (mkB ps[i])) from fun i h => by
    obtain ⟨g', e', _, hh⟩ := hc i ps[i] (List.getElem?_eq_getElem h)
    simp only [Option.some.injEq, Addr.mk.injEq, and_true, true_and] at e'
    rw [e']; exact hh)
  have HG := Lib.hid hg
  rw [H5.out]
  clear hc hb1
  go_wp2_with fail
  go_loopw [5, 19] (fun v i wr => ∃ (k acc : Nat) (a : Int), k ≤ 1 ∧ v = .int .u64 a ∧ Hid ((acc : Int) = a) ∧ i = .int .i64 k ∧ Hid (R4 ps k acc) ∧ Hid (Below w1.heap.size w1 wr)) (fun _ i _ => 1 - (intOf i).toNat)
  case atStart => exact ⟨0, 0, 0, by omega, rfl, Lib.hid rfl, rfl, Lib.hid (R4_start _ (by rw [H5.out]; omega)), Lib.hid (Below.refl _ _)⟩
  case round =>
    obtain ⟨k, acc, a, hk, rfl, HA0, rfl, HR, HBr⟩ := hrel
    have hkk : k = 0 ∨ k = 1 := by omega
    clear hk
    rcases hkk with rfl | rfl
    · have c0 := (HBr.out.cell (p := ⟨g, 0, none⟩) HG.out).trans (HC.out 0 (by rw [H5.out]; omega))
      have hxz : (mkB (ps[0]'(by rw [H5.out]; omega))).size ≤ 2097152 := HZ.out _ (List.getElem_mem _)
      have HNM := Lib.hid (refN_is (mkB (ps[0]'(by rw [H5.out]; omega))) (by omega) wr)
      rw [mkB_list] at HNM
      have HQ := Lib.hid (show ∃ q, (ps[0]'(by rw [H5.out]; omega)) = q from ⟨_, rfl⟩)
      obtain ⟨q, hq⟩ := HQ.out
      have hac := (HR.out.1 (by rw [H5.out]; omega)).2
      have hac1 : a + 4294967296 ≤ 4294967296 := by have h1 : acc + 4294967296 ≤ 4294967296 := hac; have h2 := HA0.out; omega
      have hac0 : 0 ≤ a := by have h2 := HA0.out; omega
      have HPQ := Lib.hid hq
      rw [hq] at c0 HNM
      clear hac HQ hq hxz
      go_wp2_with fail
      refine HNM.out.mono ?_
      rintro e w2 ⟨rfl, hb⟩
      have HB2 := Lib.hid hb
      clear hb c0 HNM
      rcases hno : refN q with _ | m
      · have HE := Lib.hid (R4_none HR.out (k := 0) (by rw [H5.out]; omega) (by rw [HPQ.out]; exact rn_none hno))
        clear hno
        simp only [refNE]
        go_wp2_with fail
        go_ret2
        rw [HE.out]
        exact ⟨ans_no rfl, HB1.out.trans ((HBr.out.trans (HB2.out.mono HBr.out.size)).mono HB1.out.size)⟩
      · obtain ⟨hm40, m', hm', hm1, hm2⟩ := rn_some hno
        by_cases hbd : m < 4294967296
        · obtain rfl : m' = m := hm1 (by omega)
          have HE := Lib.hid (R4_last HR.out (k := 0) (by rw [H5.out]) (by rw [HPQ.out]; exact hm') hbd)
          obtain ⟨x, hx⟩ : ∃ x : Int, (m' : Int) = x := ⟨_, rfl⟩
          have hbi : x < 4294967296 := by omega
          have hb0 : 0 ≤ x := by omega
          have HXN := Lib.hid hx
          simp only [refNE]
          rw [hx]
          clear hno hbd hx hm40 hm' hm1 hm2
          go_wp2_with fail
          go_roundw
          case rel => exact ⟨1, acc + m' * 1, a + x * 1, by omega, (by first | rfl | (congr 1; omega)), Lib.hid (by have h1 := HA0.out; have h2 := HXN.out; omega), rfl, by simpa [pw] using HE, Lib.hid (HBr.out.trans (HB2.out.mono HBr.out.size))⟩
          case measure => simp [intOf]
        · have HE := Lib.hid (R4_big HR.out (k := 0) (by rw [H5.out]; omega) (by rw [HPQ.out]; exact hm') (by rw [if_pos (by rw [H5.out])]; have h9 := hm1; have h10 := hm2; show ¬ m' < 4294967296; omega))
          obtain ⟨x, hx⟩ : ∃ x : Int, (m : Int) = x := ⟨_, rfl⟩
          have hbi : 4294967296 ≤ x := by omega
          have hb2 : x ≤ 1099511627776 := by omega
          simp only [refNE]
          rw [hx]
          clear hno hbd hx hm40 hm' hm1 hm2
          go_wp2_with fail
          go_ret2
          rw [HE.out]
          exact ⟨ans_no rfl, HB1.out.trans ((HBr.out.trans (HB2.out.mono HBr.out.size)).mono HB1.out.size)⟩
    · obtain ⟨hE, hlt⟩ := HR.out.2 (by rw [H5.out])
      have HE := Lib.hid hE
      have hac1 : a < 4294967296 := by have h2 := HA0.out; omega
      have hac0 : 0 ≤ a := by have h2 := HA0.out; omega
      clear hE
      go_wp2_with fail
      go_ret2
      exact ⟨ans_yes HE.out (by have := HA0.out; omega), HB1.out.trans (HBr.out.mono HB1.out.size)⟩
set_option maxHeartbeats 4000000 in
set_option maxRecDepth 100000 in
theorem rv4_2 (s : ByteArray) (ps : List (List UInt8)) (hP : PaC s ps) (hz : ∀ p ∈ ps, p.length ≤ 2097152) (h5 : ps.length = 2) (w : World) : Calls Tryd.prog 11 #[.string s] w fun e w' => e = ansE (sum4 0 ps) ∧ Below w.heap.size w w' := by
  have HP := Lib.hid (hP w)
  have H5 := Lib.hid h5
  have HZ := Lib.hid hz
  clear hP h5 hz
  go_enter Tryd.func11, Tryd.ntmps11
  go_wp2_with fail
  refine HP.out.mono ?_
  rintro e w1 ⟨⟨v, rfl, hst⟩, hb1⟩
  have HB1 := Lib.hid hb1
  have HST := Lib.hid hst
  obtain ⟨p, cap, rfl, hc⟩ := hst
  obtain ⟨g, rfl, hg, -⟩ := hc 0 (ps[0]'(by rw [H5.out]; omega)) (List.getElem?_eq_getElem (by rw [H5.out]; omega))
  have HC := Lib.hid (show ∀ (i : Nat) (h : i < ps.length), w1.cell? ⟨g, i, none⟩ = some (.string (mkB ps[i])) from fun i h => by
    obtain ⟨g', e', _, hh⟩ := hc i ps[i] (List.getElem?_eq_getElem h)
    simp only [Option.some.injEq, Addr.mk.injEq, and_true, true_and] at e'
    rw [e']; exact hh)
  have HG := Lib.hid hg
  rw [H5.out]
  clear hc hb1
  go_wp2_with fail
  go_loopw [5, 19] (fun v i wr => ∃ (k acc : Nat) (a : Int), k ≤ 2 ∧ v = .int .u64 a ∧ Hid ((acc : Int) = a) ∧ i = .int .i64 k ∧ Hid (R4 ps k acc) ∧ Hid (Below w1.heap.size w1 wr)) (fun _ i _ => 2 - (intOf i).toNat)
  case atStart => exact ⟨0, 0, 0, by omega, rfl, Lib.hid rfl, rfl, Lib.hid (R4_start _ (by rw [H5.out]; omega)), Lib.hid (Below.refl _ _)⟩
  case round =>
    obtain ⟨k, acc, a, hk, rfl, HA0, rfl, HR, HBr⟩ := hrel
    have hkk : k = 0 ∨ k = 1 ∨ k = 2 := by omega
    clear hk
    rcases hkk with rfl | rfl | rfl
    · have c0 := (HBr.out.cell (p := ⟨g, 0, none⟩) HG.out).trans (HC.out 0 (by rw [H5.out]; omega))
      have hxz : (mkB (ps[0]'(by rw [H5.out]; omega))).size ≤ 2097152 := HZ.out _ (List.getElem_mem _)
      have HNM := Lib.hid (refN_is (mkB (ps[0]'(by rw [H5.out]; omega))) (by omega) wr)
      rw [mkB_list] at HNM
      have HQ := Lib.hid (show ∃ q, (ps[0]'(by rw [H5.out]; omega)) = q from ⟨_, rfl⟩)
      obtain ⟨q, hq⟩ := HQ.out
      have hac := (HR.out.1 (by rw [H5.out]; omega)).2
      have hac1 : a + 4294967296 ≤ 4294967296 := by have h1 : acc + 4294967296 ≤ 4294967296 := hac; have h2 := HA0.out; omega
      have hac0 : 0 ≤ a := by have h2 := HA0.out; omega
      have HPQ := Lib.hid hq
      rw [hq] at c0 HNM
      clear hac HQ hq hxz
      go_wp2_with fail
      refine HNM.out.mono ?_
      rintro e w2 ⟨rfl, hb⟩
      have HB2 := Lib.hid hb
      clear hb c0 HNM
      rcases hno : refN q with _ | m
      · have HE := Lib.hid (R4_none HR.out (k := 0) (by rw [H5.out]; omega) (by rw [HPQ.out]; exact rn_none hno))
        clear hno
        simp only [refNE]
        go_wp2_with fail
        go_ret2
        rw [HE.out]
        exact ⟨ans_no rfl, HB1.out.trans ((HBr.out.trans (HB2.out.mono HBr.out.size)).mono HB1.out.size)⟩
      · obtain ⟨hm40, m', hm', hm1, hm2⟩ := rn_some hno
        by_cases hbd : m < 256
        · obtain rfl : m' = m := hm1 (by omega)
          have HE := Lib.hid (R4_next HR.out (k := 0) (by rw [H5.out]; omega) (by rw [H5.out]; omega) (by rw [HPQ.out]; exact hm') hbd)
          obtain ⟨x, hx⟩ : ∃ x : Int, (m' : Int) = x := ⟨_, rfl⟩
          have hbi : x < 256 := by omega
          have hb0 : 0 ≤ x := by omega
          have HXN := Lib.hid hx
          simp only [refNE]
          rw [hx]
          clear hno hbd hx hm40 hm' hm1 hm2
          go_wp2_with fail
          go_roundw
          case rel => exact ⟨1, acc + m' * 16777216, a + x * 16777216, by omega, (by first | rfl | (congr 1; omega)), Lib.hid (by have h1 := HA0.out; have h2 := HXN.out; omega), rfl, by simpa [pw] using HE, Lib.hid (HBr.out.trans (HB2.out.mono HBr.out.size))⟩
          case measure => simp [intOf]
        · have HE := Lib.hid (R4_big HR.out (k := 0) (by rw [H5.out]; omega) (by rw [HPQ.out]; exact hm') (by rw [if_neg (by rw [H5.out]; omega)]; have h9 := hm1; have h10 := hm2; show ¬ m' < 256; omega))
          obtain ⟨x, hx⟩ : ∃ x : Int, (m : Int) = x := ⟨_, rfl⟩
          have hbi : 256 ≤ x := by omega
          have hb2 : x ≤ 1099511627776 := by omega
          simp only [refNE]
          rw [hx]
          clear hno hbd hx hm40 hm' hm1 hm2
          go_wp2_with fail
          go_ret2
          rw [HE.out]
          exact ⟨ans_no rfl, HB1.out.trans ((HBr.out.trans (HB2.out.mono HBr.out.size)).mono HB1.out.size)⟩
    · have c0 := (HBr.out.cell (p := ⟨g, 1, none⟩) HG.out).trans (HC.out 1 (by rw [H5.out]; omega))
      have hxz : (mkB (ps[1]'(by rw [H5.out]; omega))).size ≤ 2097152 := HZ.out _ (List.getElem_mem _)
      have HNM := Lib.hid (refN_is (mkB (ps[1]'(by rw [H5.out]; omega))) (by omega) wr)
      rw [mkB_list] at HNM
      have HQ := Lib.hid (show ∃ q, (ps[1]'(by rw [H5.out]; omega)) = q from ⟨_, rfl⟩)
      obtain ⟨q, hq⟩ := HQ.out
      have hac := (HR.out.1 (by rw [H5.out]; omega)).2
      have hac1 : a + 16777216 ≤ 4294967296 := by have h1 : acc + 16777216 ≤ 4294967296 := hac; have h2 := HA0.out; omega
      have hac0 : 0 ≤ a := by have h2 := HA0.out; omega
      have HPQ := Lib.hid hq
      rw [hq] at c0 HNM
      clear hac HQ hq hxz
      go_wp2_with fail
      refine HNM.out.mono ?_
      rintro e w2 ⟨rfl, hb⟩
      have HB2 := Lib.hid hb
      clear hb c0 HNM
      rcases hno : refN q with _ | m
      · have HE := Lib.hid (R4_none HR.out (k := 1) (by rw [H5.out]; omega) (by rw [HPQ.out]; exact rn_none hno))
        clear hno
        simp only [refNE]
        go_wp2_with fail
        go_ret2
        rw [HE.out]
        exact ⟨ans_no rfl, HB1.out.trans ((HBr.out.trans (HB2.out.mono HBr.out.size)).mono HB1.out.size)⟩
      · obtain ⟨hm40, m', hm', hm1, hm2⟩ := rn_some hno
        by_cases hbd : m < 16777216
        · obtain rfl : m' = m := hm1 (by omega)
          have HE := Lib.hid (R4_last HR.out (k := 1) (by rw [H5.out]) (by rw [HPQ.out]; exact hm') hbd)
          obtain ⟨x, hx⟩ : ∃ x : Int, (m' : Int) = x := ⟨_, rfl⟩
          have hbi : x < 16777216 := by omega
          have hb0 : 0 ≤ x := by omega
          have HXN := Lib.hid hx
          simp only [refNE]
          rw [hx]
          clear hno hbd hx hm40 hm' hm1 hm2
          go_wp2_with fail
          go_roundw
          case rel => exact ⟨2, acc + m' * 1, a + x * 1, by omega, (by first | rfl | (congr 1; omega)), Lib.hid (by have h1 := HA0.out; have h2 := HXN.out; omega), rfl, by simpa [pw] using HE, Lib.hid (HBr.out.trans (HB2.out.mono HBr.out.size))⟩
          case measure => simp [intOf]
        · have HE := Lib.hid (R4_big HR.out (k := 1) (by rw [H5.out]; omega) (by rw [HPQ.out]; exact hm') (by rw [if_pos (by rw [H5.out])]; have h9 := hm1; have h10 := hm2; show ¬ m' < 16777216; omega))
          obtain ⟨x, hx⟩ : ∃ x : Int, (m : Int) = x := ⟨_, rfl⟩
          have hbi : 16777216 ≤ x := by omega
          have hb2 : x ≤ 1099511627776 := by omega
          simp only [refNE]
          rw [hx]
          clear hno hbd hx hm40 hm' hm1 hm2
          go_wp2_with fail
          go_ret2
          rw [HE.out]
          exact ⟨ans_no rfl, HB1.out.trans ((HBr.out.trans (HB2.out.mono HBr.out.size)).mono HB1.out.size)⟩
    · obtain ⟨hE, hlt⟩ := HR.out.2 (by rw [H5.out])
      have HE := Lib.hid hE
      have hac1 : a < 4294967296 := by have h2 := HA0.out; omega
      have hac0 : 0 ≤ a := by have h2 := HA0.out; omega
      clear hE
      go_wp2_with fail
      go_ret2
      exact ⟨ans_yes HE.out (by have := HA0.out; omega), HB1.out.trans (HBr.out.mono HB1.out.size)⟩
set_option maxHeartbeats 4000000 in
set_option maxRecDepth 100000 in
theorem rv4_3 (s : ByteArray) (ps : List (List UInt8)) (hP : PaC s ps) (hz : ∀ p ∈ ps, p.length ≤ 2097152) (h5 : ps.length = 3) (w : World) : Calls Tryd.prog 11 #[.string s] w fun e w' => e = ansE (sum4 0 ps) ∧ Below w.heap.size w w' := by
  have HP := Lib.hid (hP w)
  have H5 := Lib.hid h5
  have HZ := Lib.hid hz
  clear hP h5 hz
  go_enter Tryd.func11, Tryd.ntmps11
  go_wp2_with fail
  refine HP.out.mono ?_
  rintro e w1 ⟨⟨v, rfl, hst⟩, hb1⟩
  have HB1 := Lib.hid hb1
  have HST := Lib.hid hst
  obtain ⟨p, cap, rfl, hc⟩ := hst
  obtain ⟨g, rfl, hg, -⟩ := hc 0 (ps[0]'(by rw [H5.out]; omega)) (List.getElem?_eq_getElem (by rw [H5.out]; omega))
  have HC := Lib.hid (show ∀ (i : Nat) (h : i < ps.length), w1.cell? ⟨g, i, none⟩ = some (.string (mkB ps[i])) from fun i h => by
    obtain ⟨g', e', _, hh⟩ := hc i ps[i] (List.getElem?_eq_getElem h)
    simp only [Option.some.injEq, Addr.mk.injEq, and_true, true_and] at e'
    rw [e']; exact hh)
  have HG := Lib.hid hg
  rw [H5.out]
  clear hc hb1
  go_wp2_with fail
  go_loopw [5, 19] (fun v i wr => ∃ (k acc : Nat) (a : Int), k ≤ 3 ∧ v = .int .u64 a ∧ Hid ((acc : Int) = a) ∧ i = .int .i64 k ∧ Hid (R4 ps k acc) ∧ Hid (Below w1.heap.size w1 wr)) (fun _ i _ => 3 - (intOf i).toNat)
  case atStart => exact ⟨0, 0, 0, by omega, rfl, Lib.hid rfl, rfl, Lib.hid (R4_start _ (by rw [H5.out]; omega)), Lib.hid (Below.refl _ _)⟩
  case round =>
    obtain ⟨k, acc, a, hk, rfl, HA0, rfl, HR, HBr⟩ := hrel
    have hkk : k = 0 ∨ k = 1 ∨ k = 2 ∨ k = 3 := by omega
    clear hk
    rcases hkk with rfl | rfl | rfl | rfl
    · have c0 := (HBr.out.cell (p := ⟨g, 0, none⟩) HG.out).trans (HC.out 0 (by rw [H5.out]; omega))
      have hxz : (mkB (ps[0]'(by rw [H5.out]; omega))).size ≤ 2097152 := HZ.out _ (List.getElem_mem _)
      have HNM := Lib.hid (refN_is (mkB (ps[0]'(by rw [H5.out]; omega))) (by omega) wr)
      rw [mkB_list] at HNM
      have HQ := Lib.hid (show ∃ q, (ps[0]'(by rw [H5.out]; omega)) = q from ⟨_, rfl⟩)
      obtain ⟨q, hq⟩ := HQ.out
      have hac := (HR.out.1 (by rw [H5.out]; omega)).2
      have hac1 : a + 4294967296 ≤ 4294967296 := by have h1 : acc + 4294967296 ≤ 4294967296 := hac; have h2 := HA0.out; omega
      have hac0 : 0 ≤ a := by have h2 := HA0.out; omega
      have HPQ := Lib.hid hq
      rw [hq] at c0 HNM
      clear hac HQ hq hxz
      go_wp2_with fail
      refine HNM.out.mono ?_
      rintro e w2 ⟨rfl, hb⟩
      have HB2 := Lib.hid hb
      clear hb c0 HNM
      rcases hno : refN q with _ | m
      · have HE := Lib.hid (R4_none HR.out (k := 0) (by rw [H5.out]; omega) (by rw [HPQ.out]; exact rn_none hno))
        clear hno
        simp only [refNE]
        go_wp2_with fail
        go_ret2
        rw [HE.out]
        exact ⟨ans_no rfl, HB1.out.trans ((HBr.out.trans (HB2.out.mono HBr.out.size)).mono HB1.out.size)⟩
      · obtain ⟨hm40, m', hm', hm1, hm2⟩ := rn_some hno
        by_cases hbd : m < 256
        · obtain rfl : m' = m := hm1 (by omega)
          have HE := Lib.hid (R4_next HR.out (k := 0) (by rw [H5.out]; omega) (by rw [H5.out]; omega) (by rw [HPQ.out]; exact hm') hbd)
          obtain ⟨x, hx⟩ : ∃ x : Int, (m' : Int) = x := ⟨_, rfl⟩
          have hbi : x < 256 := by omega
          have hb0 : 0 ≤ x := by omega
          have HXN := Lib.hid hx
          simp only [refNE]
          rw [hx]
          clear hno hbd hx hm40 hm' hm1 hm2
          go_wp2_with fail
          go_roundw
          case rel => exact ⟨1, acc + m' * 16777216, a + x * 16777216, by omega, (by first | rfl | (congr 1; omega)), Lib.hid (by have h1 := HA0.out; have h2 := HXN.out; omega), rfl, by simpa [pw] using HE, Lib.hid (HBr.out.trans (HB2.out.mono HBr.out.size))⟩
          case measure => simp [intOf]
        · have HE := Lib.hid (R4_big HR.out (k := 0) (by rw [H5.out]; omega) (by rw [HPQ.out]; exact hm') (by rw [if_neg (by rw [H5.out]; omega)]; have h9 := hm1; have h10 := hm2; show ¬ m' < 256; omega))
          obtain ⟨x, hx⟩ : ∃ x : Int, (m : Int) = x := ⟨_, rfl⟩
          have hbi : 256 ≤ x := by omega
          have hb2 : x ≤ 1099511627776 := by omega
          simp only [refNE]
          rw [hx]
          clear hno hbd hx hm40 hm' hm1 hm2
          go_wp2_with fail
          go_ret2
          rw [HE.out]
          exact ⟨ans_no rfl, HB1.out.trans ((HBr.out.trans (HB2.out.mono HBr.out.size)).mono HB1.out.size)⟩
    · have c0 := (HBr.out.cell (p := ⟨g, 1, none⟩) HG.out).trans (HC.out 1 (by rw [H5.out]; omega))
      have hxz : (mkB (ps[1]'(by rw [H5.out]; omega))).size ≤ 2097152 := HZ.out _ (List.getElem_mem _)
      have HNM := Lib.hid (refN_is (mkB (ps[1]'(by rw [H5.out]; omega))) (by omega) wr)
      rw [mkB_list] at HNM
      have HQ := Lib.hid (show ∃ q, (ps[1]'(by rw [H5.out]; omega)) = q from ⟨_, rfl⟩)
      obtain ⟨q, hq⟩ := HQ.out
      have hac := (HR.out.1 (by rw [H5.out]; omega)).2
      have hac1 : a + 16777216 ≤ 4294967296 := by have h1 : acc + 16777216 ≤ 4294967296 := hac; have h2 := HA0.out; omega
      have hac0 : 0 ≤ a := by have h2 := HA0.out; omega
      have HPQ := Lib.hid hq
      rw [hq] at c0 HNM
      clear hac HQ hq hxz
      go_wp2_with fail
      refine HNM.out.mono ?_
      rintro e w2 ⟨rfl, hb⟩
      have HB2 := Lib.hid hb
      clear hb c0 HNM
      rcases hno : refN q with _ | m
      · have HE := Lib.hid (R4_none HR.out (k := 1) (by rw [H5.out]; omega) (by rw [HPQ.out]; exact rn_none hno))
        clear hno
        simp only [refNE]
        go_wp2_with fail
        go_ret2
        rw [HE.out]
        exact ⟨ans_no rfl, HB1.out.trans ((HBr.out.trans (HB2.out.mono HBr.out.size)).mono HB1.out.size)⟩
      · obtain ⟨hm40, m', hm', hm1, hm2⟩ := rn_some hno
        by_cases hbd : m < 256
        · obtain rfl : m' = m := hm1 (by omega)
          have HE := Lib.hid (R4_next HR.out (k := 1) (by rw [H5.out]; omega) (by rw [H5.out]; omega) (by rw [HPQ.out]; exact hm') hbd)
          obtain ⟨x, hx⟩ : ∃ x : Int, (m' : Int) = x := ⟨_, rfl⟩
          have hbi : x < 256 := by omega
          have hb0 : 0 ≤ x := by omega
          have HXN := Lib.hid hx
          simp only [refNE]
          rw [hx]
          clear hno hbd hx hm40 hm' hm1 hm2
          go_wp2_with fail
          go_roundw
          case rel => exact ⟨2, acc + m' * 65536, a + x * 65536, by omega, (by first | rfl | (congr 1; omega)), Lib.hid (by have h1 := HA0.out; have h2 := HXN.out; omega), rfl, by simpa [pw] using HE, Lib.hid (HBr.out.trans (HB2.out.mono HBr.out.size))⟩
          case measure => simp [intOf]
        · have HE := Lib.hid (R4_big HR.out (k := 1) (by rw [H5.out]; omega) (by rw [HPQ.out]; exact hm') (by rw [if_neg (by rw [H5.out]; omega)]; have h9 := hm1; have h10 := hm2; show ¬ m' < 256; omega))
          obtain ⟨x, hx⟩ : ∃ x : Int, (m : Int) = x := ⟨_, rfl⟩
          have hbi : 256 ≤ x := by omega
          have hb2 : x ≤ 1099511627776 := by omega
          simp only [refNE]
          rw [hx]
          clear hno hbd hx hm40 hm' hm1 hm2
          go_wp2_with fail
          go_ret2
          rw [HE.out]
          exact ⟨ans_no rfl, HB1.out.trans ((HBr.out.trans (HB2.out.mono HBr.out.size)).mono HB1.out.size)⟩
    · have c0 := (HBr.out.cell (p := ⟨g, 2, none⟩) HG.out).trans (HC.out 2 (by rw [H5.out]; omega))
      have hxz : (mkB (ps[2]'(by rw [H5.out]; omega))).size ≤ 2097152 := HZ.out _ (List.getElem_mem _)
      have HNM := Lib.hid (refN_is (mkB (ps[2]'(by rw [H5.out]; omega))) (by omega) wr)
      rw [mkB_list] at HNM
      have HQ := Lib.hid (show ∃ q, (ps[2]'(by rw [H5.out]; omega)) = q from ⟨_, rfl⟩)
      obtain ⟨q, hq⟩ := HQ.out
      have hac := (HR.out.1 (by rw [H5.out]; omega)).2
      have hac1 : a + 65536 ≤ 4294967296 := by have h1 : acc + 65536 ≤ 4294967296 := hac; have h2 := HA0.out; omega
      have hac0 : 0 ≤ a := by have h2 := HA0.out; omega
      have HPQ := Lib.hid hq
      rw [hq] at c0 HNM
      clear hac HQ hq hxz
      go_wp2_with fail
      refine HNM.out.mono ?_
      rintro e w2 ⟨rfl, hb⟩
      have HB2 := Lib.hid hb
      clear hb c0 HNM
      rcases hno : refN q with _ | m
      · have HE := Lib.hid (R4_none HR.out (k := 2) (by rw [H5.out]; omega) (by rw [HPQ.out]; exact rn_none hno))
        clear hno
        simp only [refNE]
        go_wp2_with fail
        go_ret2
        rw [HE.out]
        exact ⟨ans_no rfl, HB1.out.trans ((HBr.out.trans (HB2.out.mono HBr.out.size)).mono HB1.out.size)⟩
      · obtain ⟨hm40, m', hm', hm1, hm2⟩ := rn_some hno
        by_cases hbd : m < 65536
        · obtain rfl : m' = m := hm1 (by omega)
          have HE := Lib.hid (R4_last HR.out (k := 2) (by rw [H5.out]) (by rw [HPQ.out]; exact hm') hbd)
          obtain ⟨x, hx⟩ : ∃ x : Int, (m' : Int) = x := ⟨_, rfl⟩
          have hbi : x < 65536 := by omega
          have hb0 : 0 ≤ x := by omega
          have HXN := Lib.hid hx
          simp only [refNE]
          rw [hx]
          clear hno hbd hx hm40 hm' hm1 hm2
          go_wp2_with fail
          go_roundw
          case rel => exact ⟨3, acc + m' * 1, a + x * 1, by omega, (by first | rfl | (congr 1; omega)), Lib.hid (by have h1 := HA0.out; have h2 := HXN.out; omega), rfl, by simpa [pw] using HE, Lib.hid (HBr.out.trans (HB2.out.mono HBr.out.size))⟩
          case measure => simp [intOf]
        · have HE := Lib.hid (R4_big HR.out (k := 2) (by rw [H5.out]; omega) (by rw [HPQ.out]; exact hm') (by rw [if_pos (by rw [H5.out])]; have h9 := hm1; have h10 := hm2; show ¬ m' < 65536; omega))
          obtain ⟨x, hx⟩ : ∃ x : Int, (m : Int) = x := ⟨_, rfl⟩
          have hbi : 65536 ≤ x := by omega
          have hb2 : x ≤ 1099511627776 := by omega
          simp only [refNE]
          rw [hx]
          clear hno hbd hx hm40 hm' hm1 hm2
          go_wp2_with fail
          go_ret2
          rw [HE.out]
          exact ⟨ans_no rfl, HB1.out.trans ((HBr.out.trans (HB2.out.mono HBr.out.size)).mono HB1.out.size)⟩
    · obtain ⟨hE, hlt⟩ := HR.out.2 (by rw [H5.out])
      have HE := Lib.hid hE
      have hac1 : a < 4294967296 := by have h2 := HA0.out; omega
      have hac0 : 0 ≤ a := by have h2 := HA0.out; omega
      clear hE
      go_wp2_with fail
      go_ret2
      exact ⟨ans_yes HE.out (by have := HA0.out; omega), HB1.out.trans (HBr.out.mono HB1.out.size)⟩
set_option maxHeartbeats 4000000 in
set_option maxRecDepth 100000 in
theorem rv4_4 (s : ByteArray) (ps : List (List UInt8)) (hP : PaC s ps) (hz : ∀ p ∈ ps, p.length ≤ 2097152) (h5 : ps.length = 4) (w : World) : Calls Tryd.prog 11 #[.string s] w fun e w' => e = ansE (sum4 0 ps) ∧ Below w.heap.size w w' := by
  have HP := Lib.hid (hP w)
  have H5 := Lib.hid h5
  have HZ := Lib.hid hz
  clear hP h5 hz
  go_enter Tryd.func11, Tryd.ntmps11
  go_wp2_with fail
  refine HP.out.mono ?_
  rintro e w1 ⟨⟨v, rfl, hst⟩, hb1⟩
  have HB1 := Lib.hid hb1
  have HST := Lib.hid hst
  obtain ⟨p, cap, rfl, hc⟩ := hst
  obtain ⟨g, rfl, hg, -⟩ := hc 0 (ps[0]'(by rw [H5.out]; omega)) (List.getElem?_eq_getElem (by rw [H5.out]; omega))
  have HC := Lib.hid (show ∀ (i : Nat) (h : i < ps.length), w1.cell? ⟨g, i, none⟩ = some (.string (mkB ps[i])) from fun i h => by
    obtain ⟨g', e', _, hh⟩ := hc i ps[i] (List.getElem?_eq_getElem h)
    simp only [Option.some.injEq, Addr.mk.injEq, and_true, true_and] at e'
    rw [e']; exact hh)
  have HG := Lib.hid hg
  rw [H5.out]
  clear hc hb1
  go_wp2_with fail
  go_loopw [5, 19] (fun v i wr => ∃ (k acc : Nat) (a : Int), k ≤ 4 ∧ v = .int .u64 a ∧ Hid ((acc : Int) = a) ∧ i = .int .i64 k ∧ Hid (R4 ps k acc) ∧ Hid (Below w1.heap.size w1 wr)) (fun _ i _ => 4 - (intOf i).toNat)
  case atStart => exact ⟨0, 0, 0, by omega, rfl, Lib.hid rfl, rfl, Lib.hid (R4_start _ (by rw [H5.out]; omega)), Lib.hid (Below.refl _ _)⟩
  case round =>
    obtain ⟨k, acc, a, hk, rfl, HA0, rfl, HR, HBr⟩ := hrel
    have hkk : k = 0 ∨ k = 1 ∨ k = 2 ∨ k = 3 ∨ k = 4 := by omega
    clear hk
    rcases hkk with rfl | rfl | rfl | rfl | rfl
    · have c0 := (HBr.out.cell (p := ⟨g, 0, none⟩) HG.out).trans (HC.out 0 (by rw [H5.out]; omega))
      have hxz : (mkB (ps[0]'(by rw [H5.out]; omega))).size ≤ 2097152 := HZ.out _ (List.getElem_mem _)
      have HNM := Lib.hid (refN_is (mkB (ps[0]'(by rw [H5.out]; omega))) (by omega) wr)
      rw [mkB_list] at HNM
      have HQ := Lib.hid (show ∃ q, (ps[0]'(by rw [H5.out]; omega)) = q from ⟨_, rfl⟩)
      obtain ⟨q, hq⟩ := HQ.out
      have hac := (HR.out.1 (by rw [H5.out]; omega)).2
      have hac1 : a + 4294967296 ≤ 4294967296 := by have h1 : acc + 4294967296 ≤ 4294967296 := hac; have h2 := HA0.out; omega
      have hac0 : 0 ≤ a := by have h2 := HA0.out; omega
      have HPQ := Lib.hid hq
      rw [hq] at c0 HNM
      clear hac HQ hq hxz
      go_wp2_with fail
      refine HNM.out.mono ?_
      rintro e w2 ⟨rfl, hb⟩
      have HB2 := Lib.hid hb
      clear hb c0 HNM
      rcases hno : refN q with _ | m
      · have HE := Lib.hid (R4_none HR.out (k := 0) (by rw [H5.out]; omega) (by rw [HPQ.out]; exact rn_none hno))
        clear hno
        simp only [refNE]
        go_wp2_with fail
        go_ret2
        rw [HE.out]
        exact ⟨ans_no rfl, HB1.out.trans ((HBr.out.trans (HB2.out.mono HBr.out.size)).mono HB1.out.size)⟩
      · obtain ⟨hm40, m', hm', hm1, hm2⟩ := rn_some hno
        by_cases hbd : m < 256
        · obtain rfl : m' = m := hm1 (by omega)
          have HE := Lib.hid (R4_next HR.out (k := 0) (by rw [H5.out]; omega) (by rw [H5.out]; omega) (by rw [HPQ.out]; exact hm') hbd)
          obtain ⟨x, hx⟩ : ∃ x : Int, (m' : Int) = x := ⟨_, rfl⟩
          have hbi : x < 256 := by omega
          have hb0 : 0 ≤ x := by omega
          have HXN := Lib.hid hx
          simp only [refNE]
          rw [hx]
          clear hno hbd hx hm40 hm' hm1 hm2
          go_wp2_with fail
          go_roundw
          case rel => exact ⟨1, acc + m' * 16777216, a + x * 16777216, by omega, (by first | rfl | (congr 1; omega)), Lib.hid (by have h1 := HA0.out; have h2 := HXN.out; omega), rfl, by simpa [pw] using HE, Lib.hid (HBr.out.trans (HB2.out.mono HBr.out.size))⟩
          case measure => simp [intOf]
        · have HE := Lib.hid (R4_big HR.out (k := 0) (by rw [H5.out]; omega) (by rw [HPQ.out]; exact hm') (by rw [if_neg (by rw [H5.out]; omega)]; have h9 := hm1; have h10 := hm2; show ¬ m' < 256; omega))
          obtain ⟨x, hx⟩ : ∃ x : Int, (m : Int) = x := ⟨_, rfl⟩
          have hbi : 256 ≤ x := by omega
          have hb2 : x ≤ 1099511627776 := by omega
          simp only [refNE]
          rw [hx]
          clear hno hbd hx hm40 hm' hm1 hm2
          go_wp2_with fail
          go_ret2
          rw [HE.out]
          exact ⟨ans_no rfl, HB1.out.trans ((HBr.out.trans (HB2.out.mono HBr.out.size)).mono HB1.out.size)⟩
    · have c0 := (HBr.out.cell (p := ⟨g, 1, none⟩) HG.out).trans (HC.out 1 (by rw [H5.out]; omega))
      have hxz : (mkB (ps[1]'(by rw [H5.out]; omega))).size ≤ 2097152 := HZ.out _ (List.getElem_mem _)
      have HNM := Lib.hid (refN_is (mkB (ps[1]'(by rw [H5.out]; omega))) (by omega) wr)
      rw [mkB_list] at HNM
      have HQ := Lib.hid (show ∃ q, (ps[1]'(by rw [H5.out]; omega)) = q from ⟨_, rfl⟩)
      obtain ⟨q, hq⟩ := HQ.out
      have hac := (HR.out.1 (by rw [H5.out]; omega)).2
      have hac1 : a + 16777216 ≤ 4294967296 := by have h1 : acc + 16777216 ≤ 4294967296 := hac; have h2 := HA0.out; omega
      have hac0 : 0 ≤ a := by have h2 := HA0.out; omega
      have HPQ := Lib.hid hq
      rw [hq] at c0 HNM
      clear hac HQ hq hxz
      go_wp2_with fail
      refine HNM.out.mono ?_
      rintro e w2 ⟨rfl, hb⟩
      have HB2 := Lib.hid hb
      clear hb c0 HNM
      rcases hno : refN q with _ | m
      · have HE := Lib.hid (R4_none HR.out (k := 1) (by rw [H5.out]; omega) (by rw [HPQ.out]; exact rn_none hno))
        clear hno
        simp only [refNE]
        go_wp2_with fail
        go_ret2
        rw [HE.out]
        exact ⟨ans_no rfl, HB1.out.trans ((HBr.out.trans (HB2.out.mono HBr.out.size)).mono HB1.out.size)⟩
      · obtain ⟨hm40, m', hm', hm1, hm2⟩ := rn_some hno
        by_cases hbd : m < 256
        · obtain rfl : m' = m := hm1 (by omega)
          have HE := Lib.hid (R4_next HR.out (k := 1) (by rw [H5.out]; omega) (by rw [H5.out]; omega) (by rw [HPQ.out]; exact hm') hbd)
          obtain ⟨x, hx⟩ : ∃ x : Int, (m' : Int) = x := ⟨_, rfl⟩
          have hbi : x < 256 := by omega
          have hb0 : 0 ≤ x := by omega
          have HXN := Lib.hid hx
          simp only [refNE]
          rw [hx]
          clear hno hbd hx hm40 hm' hm1 hm2
          go_wp2_with fail
          go_roundw
          case rel => exact ⟨2, acc + m' * 65536, a + x * 65536, by omega, (by first | rfl | (congr 1; omega)), Lib.hid (by have h1 := HA0.out; have h2 := HXN.out; omega), rfl, by simpa [pw] using HE, Lib.hid (HBr.out.trans (HB2.out.mono HBr.out.size))⟩
          case measure => simp [intOf]
        · have HE := Lib.hid (R4_big HR.out (k := 1) (by rw [H5.out]; omega) (by rw [HPQ.out]; exact hm') (by rw [if_neg (by rw [H5.out]; omega)]; have h9 := hm1; have h10 := hm2; show ¬ m' < 256; omega))
          obtain ⟨x, hx⟩ : ∃ x : Int, (m : Int) = x := ⟨_, rfl⟩
          have hbi : 256 ≤ x := by omega
          have hb2 : x ≤ 1099511627776 := by omega
          simp only [refNE]
          rw [hx]
          clear hno hbd hx hm40 hm' hm1 hm2
          go_wp2_with fail
          go_ret2
          rw [HE.out]
          exact ⟨ans_no rfl, HB1.out.trans ((HBr.out.trans (HB2.out.mono HBr.out.size)).mono HB1.out.size)⟩
    · have c0 := (HBr.out.cell (p := ⟨g, 2, none⟩) HG.out).trans (HC.out 2 (by rw [H5.out]; omega))
      have hxz : (mkB (ps[2]'(by rw [H5.out]; omega))).size ≤ 2097152 := HZ.out _ (List.getElem_mem _)
      have HNM := Lib.hid (refN_is (mkB (ps[2]'(by rw [H5.out]; omega))) (by omega) wr)
      rw [mkB_list] at HNM
      have HQ := Lib.hid (show ∃ q, (ps[2]'(by rw [H5.out]; omega)) = q from ⟨_, rfl⟩)
      obtain ⟨q, hq⟩ := HQ.out
      have hac := (HR.out.1 (by rw [H5.out]; omega)).2
      have hac1 : a + 65536 ≤ 4294967296 := by have h1 : acc + 65536 ≤ 4294967296 := hac; have h2 := HA0.out; omega
      have hac0 : 0 ≤ a := by have h2 := HA0.out; omega
      have HPQ := Lib.hid hq
      rw [hq] at c0 HNM
      clear hac HQ hq hxz
      go_wp2_with fail
      refine HNM.out.mono ?_
      rintro e w2 ⟨rfl, hb⟩
      have HB2 := Lib.hid hb
      clear hb c0 HNM
      rcases hno : refN q with _ | m
      · have HE := Lib.hid (R4_none HR.out (k := 2) (by rw [H5.out]; omega) (by rw [HPQ.out]; exact rn_none hno))
        clear hno
        simp only [refNE]
        go_wp2_with fail
        go_ret2
        rw [HE.out]
        exact ⟨ans_no rfl, HB1.out.trans ((HBr.out.trans (HB2.out.mono HBr.out.size)).mono HB1.out.size)⟩
      · obtain ⟨hm40, m', hm', hm1, hm2⟩ := rn_some hno
        by_cases hbd : m < 256
        · obtain rfl : m' = m := hm1 (by omega)
          have HE := Lib.hid (R4_next HR.out (k := 2) (by rw [H5.out]; omega) (by rw [H5.out]; omega) (by rw [HPQ.out]; exact hm') hbd)
          obtain ⟨x, hx⟩ : ∃ x : Int, (m' : Int) = x := ⟨_, rfl⟩
          have hbi : x < 256 := by omega
          have hb0 : 0 ≤ x := by omega
          have HXN := Lib.hid hx
          simp only [refNE]
          rw [hx]
          clear hno hbd hx hm40 hm' hm1 hm2
          go_wp2_with fail
          go_roundw
          case rel => exact ⟨3, acc + m' * 256, a + x * 256, by omega, (by first | rfl | (congr 1; omega)), Lib.hid (by have h1 := HA0.out; have h2 := HXN.out; omega), rfl, by simpa [pw] using HE, Lib.hid (HBr.out.trans (HB2.out.mono HBr.out.size))⟩
          case measure => simp [intOf]
        · have HE := Lib.hid (R4_big HR.out (k := 2) (by rw [H5.out]; omega) (by rw [HPQ.out]; exact hm') (by rw [if_neg (by rw [H5.out]; omega)]; have h9 := hm1; have h10 := hm2; show ¬ m' < 256; omega))
          obtain ⟨x, hx⟩ : ∃ x : Int, (m : Int) = x := ⟨_, rfl⟩
          have hbi : 256 ≤ x := by omega
          have hb2 : x ≤ 1099511627776 := by omega
          simp only [refNE]
          rw [hx]
          clear hno hbd hx hm40 hm' hm1 hm2
          go_wp2_with fail
          go_ret2
          rw [HE.out]
          exact ⟨ans_no rfl, HB1.out.trans ((HBr.out.trans (HB2.out.mono HBr.out.size)).mono HB1.out.size)⟩
    · have c0 := (HBr.out.cell (p := ⟨g, 3, none⟩) HG.out).trans (HC.out 3 (by rw [H5.out]; omega))
      have hxz : (mkB (ps[3]'(by rw [H5.out]; omega))).size ≤ 2097152 := HZ.out _ (List.getElem_mem _)
      have HNM := Lib.hid (refN_is (mkB (ps[3]'(by rw [H5.out]; omega))) (by omega) wr)
      rw [mkB_list] at HNM
      have HQ := Lib.hid (show ∃ q, (ps[3]'(by rw [H5.out]; omega)) = q from ⟨_, rfl⟩)
      obtain ⟨q, hq⟩ := HQ.out
      have hac := (HR.out.1 (by rw [H5.out]; omega)).2
      have hac1 : a + 256 ≤ 4294967296 := by have h1 : acc + 256 ≤ 4294967296 := hac; have h2 := HA0.out; omega
      have hac0 : 0 ≤ a := by have h2 := HA0.out; omega
      have HPQ := Lib.hid hq
      rw [hq] at c0 HNM
      clear hac HQ hq hxz
      go_wp2_with fail
      refine HNM.out.mono ?_
      rintro e w2 ⟨rfl, hb⟩
      have HB2 := Lib.hid hb
      clear hb c0 HNM
      rcases hno : refN q with _ | m
      · have HE := Lib.hid (R4_none HR.out (k := 3) (by rw [H5.out]; omega) (by rw [HPQ.out]; exact rn_none hno))
        clear hno
        simp only [refNE]
        go_wp2_with fail
        go_ret2
        rw [HE.out]
        exact ⟨ans_no rfl, HB1.out.trans ((HBr.out.trans (HB2.out.mono HBr.out.size)).mono HB1.out.size)⟩
      · obtain ⟨hm40, m', hm', hm1, hm2⟩ := rn_some hno
        by_cases hbd : m < 256
        · obtain rfl : m' = m := hm1 (by omega)
          have HE := Lib.hid (R4_last HR.out (k := 3) (by rw [H5.out]) (by rw [HPQ.out]; exact hm') hbd)
          obtain ⟨x, hx⟩ : ∃ x : Int, (m' : Int) = x := ⟨_, rfl⟩
          have hbi : x < 256 := by omega
          have hb0 : 0 ≤ x := by omega
          have HXN := Lib.hid hx
          simp only [refNE]
          rw [hx]
          clear hno hbd hx hm40 hm' hm1 hm2
          go_wp2_with fail
          go_roundw
          case rel => exact ⟨4, acc + m' * 1, a + x * 1, by omega, (by first | rfl | (congr 1; omega)), Lib.hid (by have h1 := HA0.out; have h2 := HXN.out; omega), rfl, by simpa [pw] using HE, Lib.hid (HBr.out.trans (HB2.out.mono HBr.out.size))⟩
          case measure => simp [intOf]
        · have HE := Lib.hid (R4_big HR.out (k := 3) (by rw [H5.out]; omega) (by rw [HPQ.out]; exact hm') (by rw [if_pos (by rw [H5.out])]; have h9 := hm1; have h10 := hm2; show ¬ m' < 256; omega))
          obtain ⟨x, hx⟩ : ∃ x : Int, (m : Int) = x := ⟨_, rfl⟩
          have hbi : 256 ≤ x := by omega
          have hb2 : x ≤ 1099511627776 := by omega
          simp only [refNE]
          rw [hx]
          clear hno hbd hx hm40 hm' hm1 hm2
          go_wp2_with fail
          go_ret2
          rw [HE.out]
          exact ⟨ans_no rfl, HB1.out.trans ((HBr.out.trans (HB2.out.mono HBr.out.size)).mono HB1.out.size)⟩
    · obtain ⟨hE, hlt⟩ := HR.out.2 (by rw [H5.out])
      have HE := Lib.hid hE
      have hac1 : a < 4294967296 := by have h2 := HA0.out; omega
      have hac0 : 0 ≤ a := by have h2 := HA0.out; omega
      clear hE
      go_wp2_with fail
      go_ret2
      exact ⟨ans_yes HE.out (by have := HA0.out; omega), HB1.out.trans (HBr.out.mono HB1.out.size)⟩
theorem rv4_is (s : ByteArray) (hs : s.size ≤ 2097152) (w : World) : Calls Tryd.prog 11 #[.string s] w fun e w' => e = ansE (v4O s.data.toList) ∧ Below w.heap.size w w' := by
  have hP : PaC s (partsAt 46 (noDot s.data.toList)) := fun W => by rw [← refPs_is]; exact rparts_is s hs W
  have hn := noDot_len s.data.toList
  rw [len_list] at hn
  have hz : ∀ p ∈ partsAt 46 (noDot s.data.toList), p.length ≤ 2097152 := fun p hp => by have := partsAt_len 46 _ p hp; omega
  have h0 := partsAt_some 46 (noDot s.data.toList)
  have h5 := partsAt_count 46 (noDot s.data.toList)
  obtain ⟨ps, hps⟩ : ∃ ps, partsAt 46 (noDot s.data.toList) = ps := ⟨_, rfl⟩
  rw [hps] at hP hz h0 h5
  by_cases h4 : ps.length ≤ 4
  · rw [v4_ps hps h4]
    have hc : ps.length = 1 ∨ ps.length = 2 ∨ ps.length = 3 ∨ ps.length = 4 := by omega
    rcases hc with h | h | h | h
    · exact rv4_1 s ps hP hz h w
    · exact rv4_2 s ps hP hz h w
    · exact rv4_3 s ps hP hz h w
    · exact rv4_4 s ps hP hz h w
  · have hv : v4O s.data.toList = none := by unfold v4O v4P; rw [hps, if_neg h4]
    rw [hv]
    exact rv4_many s ps hP (by omega) (by omega) w
end Go.Proofs.YtflddokngplgiaaDoor
