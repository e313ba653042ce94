import Derived.Test.YtflddokngplgiaaDoorA6M
namespace Go.Proofs.YtflddokngplgiaaDoor
open Go.RowKit
set_option maxHeartbeats 32000000 in
set_option maxRecDepth 100000 in
theorem v4_3 (s : ByteArray) (hs : s.size ≤ 140737488355328) (w : World) (hG : Glob w) (h5 : (partsAt 46 (noDot s.data.toList)).length = 3) :
    Calls Tryd.prog 10 #[.string s] w fun e w' => e = ansE (v4O s.data.toList) ∧ Below w.heap.size w w' := by
  have HA := Lib.hid (show v4O s.data.toList = sum4 0 (partsAt 46 (noDot s.data.toList)) from if_pos (by omega))
  have HG := Lib.hid hG
  have H5 := Lib.hid h5
  clear hG h5
  have HT := Lib.hid (trim_dot s.data.toList)
  have HZ := Lib.hid (nd_size s hs)
  go_enter Tryd.func10, Tryd.ntmps10
  go_wp2_with (go_at_call 24; refine (Tryd.strings_TrimSuffix s ⟨#[46]⟩ _ (by omega)).mono ?_; rintro e w' ⟨rfl, hw⟩; rw [hw, HT.out])
  refine (split5 _ HZ.out _).mono ?_
  rintro e w1 ⟨l, N, rfl, h1, h2, h3, h4, h6, h7⟩
  have hLL : l.length = 3 ∧ l.map (fun x => x.data.toList) = partsAt 46 (noDot s.data.toList) := by
    by_cases h : l.length ≤ 4
    · have hq := h7 h
      have e := congrArg List.length hq
      simp only [List.length_map] at e
      exact ⟨e.trans H5.out, hq⟩
    · have := h6 (by omega)
      have e := H5.out
      change 5 ≤ (partsAt 46 (noDot s.data.toList)).length at this
      omega
  have hS := strs_new w l N
  rw [← h1] at hS
  have HB0 := Lib.hid (show Below w.heap.size w w1 by rw [h1]; exact bnew _ _)
  have hsz1 : ∀ (i : Nat) (h : i < l.length), l[i].size ≤ 140737488355328 := fun i h => by
    have hm : l[i].data.toList ∈ partsAt 46 (noDot s.data.toList) := by rw [← hLL.2]; exact List.mem_map_of_mem (List.getElem_mem h)
    have e1 := partsAt_len 46 _ _ hm
    have e2 := noDot_len s.data.toList
    simp at e1 e2; omega
  have HX := Lib.hid hsz1
  have HL := Lib.hid hLL.1
  have HM := Lib.hid hLL.2
  have HS := Lib.hid hS
  have HG1 := Lib.hid (HG.out.to HB0.out)
  have hg := hS.1
  generalize hgq : w.heap.size = g at hg
  have HQ := Lib.hid hgq
  rw [hgq] at HS HB0
  clear h1 h2 h3 h4 h6 h7 hLL hS hsz1 hgq
  rw [HL.out]
  go_wp2_with fail
  go_loopw [6, 24] (fun v i wr => ∃ (k acc : Nat) (a : Int), k ≤ 3 ∧ v = .int .u64 a ∧ Hid ((acc : Int) = a) ∧ i = .int .i64 k ∧ Hid (R4 (partsAt 46 (noDot s.data.toList)) k acc) ∧ Strs wr g l ∧ Glob wr ∧ Below w.heap.size w wr) (fun _ i _ => 3 - (intOf i).toNat)
  case atStart => exact ⟨0, 0, 0, by omega, rfl, Lib.hid rfl, rfl, Lib.hid (R4_start _ (by rw [H5.out]; omega)), HS.out, HG1.out, by rw [HQ.out]; exact HB0.out⟩
  case round =>
    obtain ⟨k, acc, a, hk, rfl, HA0, rfl, HR, hSr, hGr, hBr⟩ := hrel
    have HSr := Lib.hid hSr
    have HGr := Lib.hid hGr
    have HBr := Lib.hid hBr
    have hg2 := hSr.1
    have hkk : k = 0 ∨ k = 1 ∨ k = 2 ∨ k = 3 := by omega
    clear hGr hBr hk
    rcases hkk with rfl | rfl | rfl | rfl
    · have hkl : 0 < l.length := by rw [HL.out]; omega
      have c0 := hSr.2 0 hkl
      have HC := Lib.hid (number_is l[0] (HX.out 0 (by rw [HL.out]; omega)) wr HGr.out)
      have hpp : (partsAt 46 (noDot s.data.toList))[0]'(by rw [H5.out]; omega) = l[0].data.toList := by simp only [← HM.out, List.getElem_map]
      have HP := Lib.hid hpp
      have hac := (HR.out.1 (by rw [H5.out]; omega)).2
      have hac1 : a + 4294967296 ≤ 4294967296 := by have h1 : acc + 4294967296 ≤ 4294967296 := hac; have h2 := HA0.out; omega
      have hac0 : 0 ≤ a := by have h2 := HA0.out; omega
      clear hSr hpp hac
      generalize l[0] = p at c0 HC HP
      clear hkl
      go_wp2_with fail
      refine HC.out.mono ?_
      rintro e w2 ⟨rfl, hb⟩
      have HB2 := Lib.hid hb
      clear hb c0
      rcases hno : numO p.data.toList with _ | n
      · have HE := Lib.hid (R4_none HR.out (k := 0) (by rw [H5.out]; omega) (by rw [HP.out]; exact hno))
        clear hno
        simp only [optE]
        go_wp2_with fail
        go_ret2
        exact ⟨ans_no (HA.out.trans HE.out), HBr.out.trans (HB2.out.mono HBr.out.size)⟩
      · have hlt := numO_lt hno
        by_cases hbd : n < 256
        · have HE := Lib.hid (R4_next HR.out (k := 0) (by rw [H5.out]; omega) (by rw [H5.out]; omega) (by rw [HP.out]; exact hno) hbd)
          obtain ⟨x, hx⟩ : ∃ x : Int, (n : Int) = x := ⟨_, rfl⟩
          have hbi : x < 256 := by omega
          have hb0 : 0 ≤ x := by omega
          have HXN := Lib.hid hx
          simp only [optE]
          rw [hx]
          clear hno hbd hlt hx
          go_wp2_with fail
          go_roundw
          case rel => exact ⟨1, acc + n * 16777216, a + x * 16777216, by omega, (by first | rfl | (congr 1; omega)), Lib.hid (by have h1 := HA0.out; have h2 := HXN.out; omega), rfl, HE, HSr.out.to HB2.out, HGr.out.to HB2.out, HBr.out.trans (HB2.out.mono HBr.out.size)⟩
          case measure => simp [intOf]
        · have HE := Lib.hid (R4_big HR.out (k := 0) (by rw [H5.out]; omega) (by rw [HP.out]; exact hno) (by rw [if_neg (by rw [H5.out]; omega)]; exact hbd))
          obtain ⟨x, hx⟩ : ∃ x : Int, (n : Int) = x := ⟨_, rfl⟩
          have hbi : 256 ≤ x := by omega
          have hb2 : x < 18446744073709551616 := by omega
          simp only [optE]
          rw [hx]
          clear hno hbd hx hlt
          go_wp2_with fail
          go_ret2
          exact ⟨ans_no (HA.out.trans HE.out), HBr.out.trans (HB2.out.mono HBr.out.size)⟩
    · have hkl : 1 < l.length := by rw [HL.out]; omega
      have c0 := hSr.2 1 hkl
      have HC := Lib.hid (number_is l[1] (HX.out 1 (by rw [HL.out]; omega)) wr HGr.out)
      have hpp : (partsAt 46 (noDot s.data.toList))[1]'(by rw [H5.out]; omega) = l[1].data.toList := by simp only [← HM.out, List.getElem_map]
      have HP := Lib.hid hpp
      have hac := (HR.out.1 (by rw [H5.out]; omega)).2
      have hac1 : a + 16777216 ≤ 4294967296 := by have h1 : acc + 16777216 ≤ 4294967296 := hac; have h2 := HA0.out; omega
      have hac0 : 0 ≤ a := by have h2 := HA0.out; omega
      clear hSr hpp hac
      generalize l[1] = p at c0 HC HP
      clear hkl
      go_wp2_with fail
      refine HC.out.mono ?_
      rintro e w2 ⟨rfl, hb⟩
      have HB2 := Lib.hid hb
      clear hb c0
      rcases hno : numO p.data.toList with _ | n
      · have HE := Lib.hid (R4_none HR.out (k := 1) (by rw [H5.out]; omega) (by rw [HP.out]; exact hno))
        clear hno
        simp only [optE]
        go_wp2_with fail
        go_ret2
        exact ⟨ans_no (HA.out.trans HE.out), HBr.out.trans (HB2.out.mono HBr.out.size)⟩
      · have hlt := numO_lt hno
        by_cases hbd : n < 256
        · have HE := Lib.hid (R4_next HR.out (k := 1) (by rw [H5.out]; omega) (by rw [H5.out]; omega) (by rw [HP.out]; exact hno) hbd)
          obtain ⟨x, hx⟩ : ∃ x : Int, (n : Int) = x := ⟨_, rfl⟩
          have hbi : x < 256 := by omega
          have hb0 : 0 ≤ x := by omega
          have HXN := Lib.hid hx
          simp only [optE]
          rw [hx]
          clear hno hbd hlt hx
          go_wp2_with fail
          go_roundw
          case rel => exact ⟨2, acc + n * 65536, a + x * 65536, by omega, (by first | rfl | (congr 1; omega)), Lib.hid (by have h1 := HA0.out; have h2 := HXN.out; omega), rfl, HE, HSr.out.to HB2.out, HGr.out.to HB2.out, HBr.out.trans (HB2.out.mono HBr.out.size)⟩
          case measure => simp [intOf]
        · have HE := Lib.hid (R4_big HR.out (k := 1) (by rw [H5.out]; omega) (by rw [HP.out]; exact hno) (by rw [if_neg (by rw [H5.out]; omega)]; exact hbd))
          obtain ⟨x, hx⟩ : ∃ x : Int, (n : Int) = x := ⟨_, rfl⟩
          have hbi : 256 ≤ x := by omega
          have hb2 : x < 18446744073709551616 := by omega
          simp only [optE]
          rw [hx]
          clear hno hbd hx hlt
          go_wp2_with fail
          go_ret2
          exact ⟨ans_no (HA.out.trans HE.out), HBr.out.trans (HB2.out.mono HBr.out.size)⟩
    · have hkl : 2 < l.length := by rw [HL.out]; omega
      have c0 := hSr.2 2 hkl
      have HC := Lib.hid (number_is l[2] (HX.out 2 (by rw [HL.out]; omega)) wr HGr.out)
      have hpp : (partsAt 46 (noDot s.data.toList))[2]'(by rw [H5.out]; omega) = l[2].data.toList := by simp only [← HM.out, List.getElem_map]
      have HP := Lib.hid hpp
      have hac := (HR.out.1 (by rw [H5.out]; omega)).2
      have hac1 : a + 65536 ≤ 4294967296 := by have h1 : acc + 65536 ≤ 4294967296 := hac; have h2 := HA0.out; omega
      have hac0 : 0 ≤ a := by have h2 := HA0.out; omega
      clear hSr hpp hac
      generalize l[2] = p at c0 HC HP
      clear hkl
      go_wp2_with fail
      refine HC.out.mono ?_
      rintro e w2 ⟨rfl, hb⟩
      have HB2 := Lib.hid hb
      clear hb c0
      rcases hno : numO p.data.toList with _ | n
      · have HE := Lib.hid (R4_none HR.out (k := 2) (by rw [H5.out]; omega) (by rw [HP.out]; exact hno))
        clear hno
        simp only [optE]
        go_wp2_with fail
        go_ret2
        exact ⟨ans_no (HA.out.trans HE.out), HBr.out.trans (HB2.out.mono HBr.out.size)⟩
      · have hlt := numO_lt hno
        by_cases hbd : n < 65536
        · have HE := Lib.hid (R4_last HR.out (k := 2) (by rw [H5.out]) (by rw [HP.out]; exact hno) hbd)
          obtain ⟨x, hx⟩ : ∃ x : Int, (n : Int) = x := ⟨_, rfl⟩
          have hbi : x < 65536 := by omega
          have hb0 : 0 ≤ x := by omega
          have HXN := Lib.hid hx
          simp only [optE]
          rw [hx]
          clear hno hbd hlt hx
          go_wp2_with fail
          go_roundw
          case rel => exact ⟨3, acc + n, a + x, by omega, (by first | rfl | (congr 1; omega)), Lib.hid (by have h1 := HA0.out; have h2 := HXN.out; omega), rfl, HE, HSr.out.to HB2.out, HGr.out.to HB2.out, HBr.out.trans (HB2.out.mono HBr.out.size)⟩
          case measure => simp [intOf]
        · have HE := Lib.hid (R4_big HR.out (k := 2) (by rw [H5.out]; omega) (by rw [HP.out]; exact hno) (by rw [if_pos (by rw [H5.out])]; exact hbd))
          obtain ⟨x, hx⟩ : ∃ x : Int, (n : Int) = x := ⟨_, rfl⟩
          have hbi : 65536 ≤ x := by omega
          have hb2 : x < 18446744073709551616 := by omega
          simp only [optE]
          rw [hx]
          clear hno hbd hx hlt
          go_wp2_with fail
          go_ret2
          exact ⟨ans_no (HA.out.trans HE.out), HBr.out.trans (HB2.out.mono HBr.out.size)⟩
    · have HE := Lib.hid (HR.out.2 H5.out.symm)
      have hac : a < 4294967296 := by have := HE.out.2; have h2 := HA0.out; omega
      have hac0 : 0 ≤ a := by have h2 := HA0.out; omega
      clear hSr
      go_wp2_with fail
      go_ret2
      exact ⟨ans_yes (HA.out.trans HE.out.1) HA0.out.symm, HBr.out⟩
end Go.Proofs.YtflddokngplgiaaDoor
