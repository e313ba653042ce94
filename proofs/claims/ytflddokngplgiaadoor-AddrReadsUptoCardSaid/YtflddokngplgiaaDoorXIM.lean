/-
  The walk of the document's V6.
-/
import Derived.Test.YtflddokngplgiaaDoorXHM
namespace Go.Proofs.YtflddokngplgiaaDoor
open Go.RowKit
theorem pcsM_small {l : List UInt8} {x : List Nat} (h : pcsM l = some x) : x.length ≤ l.length + 11 := by
  rw [pcsM_eq] at h
  have h1 := pcs_len h
  have h2 := mix_len l
  omega
set_option maxHeartbeats 16000000 in
set_option maxRecDepth 100000 in
theorem rv6_is (s : ByteArray) (hs : s.size ≤ 2097152) (w : World) : Calls Tryd.prog 13 #[.string s] w fun e w' => e = v6E (refV6 s.data.toList) ∧ Below w.heap.size w w' := by
  obtain ⟨R, hR⟩ : ∃ R, refV6 s.data.toList = R := ⟨_, rfl⟩
  have HREF1 := Lib.hid (fun (k : Nat) (h : Lk s.data.toList k (-1)) (hk : s.data.toList.length ≤ k + 1) => hR.symm.trans (ref_long h hk))
  have HREF2 := Lib.hid (fun (k a : Nat) (h : Lk s.data.toList k (a : Int)) => And.intro (ref_cut h).1 (hR.symm.trans (ref_cut h).2))
  rw [hR]
  clear hR
  obtain ⟨X, hX⟩ : ∃ X, (w.alloc (.cells #[.int .u16 0, .int .u16 0, .int .u16 0, .int .u16 0, .int .u16 0, .int .u16 0, .int .u16 0, .int .u16 0] 27)).alloc (.cells #[.int .u16 0, .int .u16 0, .int .u16 0, .int .u16 0, .int .u16 0, .int .u16 0, .int .u16 0, .int .u16 0] 27) = X := ⟨_, rfl⟩
  have HV0 := Lib.hid (show VSt w zer8 X from hX ▸ vst_new w)
  have HRU := Lib.hid (fun (x : ByteArray) (d : Bool) (hx : x.size ≤ 2097152) (W : World) => (rruns_is x d hx W).mono fun e w' h => pc_m h)
  go_enter Tryd.func13, Tryd.ntmps13
  go_wp2_with fail
  go_loopw [5, 6] (fun u i wr => ∃ (k : Nat) (a : Int), k ≤ s.size ∧ i = .int .i64 k ∧ u = .int .i64 a ∧ -1 ≤ a ∧ a ≤ s.size ∧ Hid (Lk s.data.toList k a) ∧ Hid (VSt w zer8 wr)) (fun _ i _ => s.size - (intOf i).toNat)
  case atStart => exact ⟨0, -1, by omega, rfl, rfl, by omega, by omega, Lib.hid (.inl ⟨rfl, fun j hj => by omega⟩), HV0⟩
  case round =>
    clear HV0 hX
    clear X
    obtain ⟨k, a, hk, rfl, rfl, ha0, ha1, HL, HV⟩ := hrel
    go_upto_region 4 with fail
    go_cut [27] from 19 to 27 (fun sb wc => ∃ b : Bool, sb = .bool b ∧ Hid (TB b (k + 1 < s.size ∧ a < 0)) ∧ Hid (VSt w zer8 wc))
    case first =>
      by_cases h1 : k + 1 < s.size
      · have c1 : (k : Int) + 1 < (s.size : Int) := by omega
        have c2 : decide ((k : Int) + 1 < (s.size : Int)) = true := decide_eq_true c1
        by_cases h2 : a < 0
        · have d2 : decide (a < 0) = true := decide_eq_true h2
          have HF := Lib.hid (TB.t (A := k + 1 < s.size ∧ a < 0) ⟨h1, h2⟩)
          go_wp2_with fail
          go_meet
          case rel => exact ⟨true, rfl, HF, HV⟩
        · have d2 : decide (a < 0) = false := decide_eq_false h2
          have HF := Lib.hid (TB.f (A := k + 1 < s.size ∧ a < 0) fun h => h2 h.2)
          go_wp2_with fail
          go_meet
          case rel => exact ⟨false, rfl, HF, HV⟩
      · have c1 : ¬ (k : Int) + 1 < (s.size : Int) := by omega
        have c2 : decide ((k : Int) + 1 < (s.size : Int)) = false := decide_eq_false c1
        have HF := Lib.hid (TB.f (A := k + 1 < s.size ∧ a < 0) fun h => h1 h.1)
        go_wp2_with fail
        go_meet
        case rel => exact ⟨false, rfl, HF, HV⟩
    case rest =>
    clear HV
    obtain ⟨b, rfl, HTB, HV⟩ := hcut
    cases b with
    | true =>
      obtain ⟨h1, h2⟩ := HTB.out.1 rfl
      have ha : a = -1 := by omega
      have HLN := Lib.hid (show ∀ j, j < k → Lib.occAt s.data.toList [58, 58] j = false from by
        rcases HL.out with ⟨_, h⟩ | ⟨h, _⟩
        · exact h
        · omega)
      have i1 : (k : Int) + 2 ≤ (s.size : Int) := by omega
      have i2 : k + 2 ≤ s.size := by omega
      have i3 : k ≤ k + 2 := by omega
      clear HTB HL h2
      by_cases hc : (s.extract k (k + 2)).toList = [58, 58]
      · have g1 : ((s.extract k (k + 2)).toList == [58, 58]) = true := beq_iff_eq.2 hc
        have HK := Lib.hid (show Lk s.data.toList (k + 1) (k : Int) from .inr ⟨by omega, Lib.index_first (by rw [len_list]; omega) ((occ2 _ _).2 (by rw [← ext_two]; exact hc)) HLN.out⟩)
        clear hc HLN ha
        go_wp2_with fail
        go_roundw
        case rel => exact ⟨k + 1, k, by omega, by go_num, rfl, by omega, by omega, HK, HV⟩
        case measure => simp [intOf]; omega
      · have g1 : ((s.extract k (k + 2)).toList == [58, 58]) = false := beq_eq_false_iff_ne.2 hc
        have HK := Lib.hid (show Lk s.data.toList (k + 1) a from .inl ⟨ha, fun j hj => by
          by_cases hjk : j = k
          · subst hjk
            rw [Bool.eq_false_iff]
            intro ho
            exact hc (by rw [ext_two]; exact (occ2 _ _).1 ho)
          · exact HLN.out j (by omega)⟩)
        have hneg : a < 0 := by omega
        clear hc HLN ha
        go_wp2_with fail
        go_roundw
        case rel => exact ⟨k + 1, a, by omega, by go_num, rfl, ha0, ha1, HK, HV⟩
        case measure => simp [intOf]; omega
    | false =>
      have hex : ¬ (k + 1 < s.size ∧ a < 0) := fun h => Bool.noConfusion (HTB.out.2 h)
      clear HTB
      by_cases h2 : a < 0
      · have ha : a = -1 := by omega
        have hk2 : s.size ≤ k + 1 := by
          rcases Nat.lt_or_ge (k + 1) s.size with h | h
          · exact absurd ⟨h, h2⟩ hex
          · exact h
        have HR := Lib.hid (HREF1.out k (by rw [← ha]; exact HL.out) (by rw [len_list]; exact hk2))
        have d2 : decide (a < 0) = true := decide_eq_true h2
        clear HREF1 HREF2 HL ha hk2 hex
        have HRU := Lib.hid (HRU.out s true hs)
        rw [show runsP true s.data.toList = pcsM s.data.toList from rfl] at HRU
        generalize pcsM s.data.toList = M at *
        go_wp2_with fail
        refine (HRU.out _).mono ?_
        rintro e w2 ⟨⟨v, b, rfl, hm⟩, hb2⟩
        obtain ⟨hmb, ⟨p, n, c, rfl⟩, hown⟩ := hm
        have HV2 := Lib.hid (HV.out.to hb2)
        have hsz := HV.out.ha.lt
        clear hb2 HRU HV
        cases M with
        | none =>
          obtain rfl : b = false := hmb.symm
          have HNO := Lib.hid (show R = none from HR.out)
          clear HR hown
          have z0 : w2.cell? ⟨w.heap.size, 0, none⟩ = some (.int .u16 0) := HV2.out.hr.cell 0 rfl; have z1 : w2.cell? ⟨w.heap.size, 1, none⟩ = some (.int .u16 0) := HV2.out.hr.cell 1 rfl; have z2 : w2.cell? ⟨w.heap.size, 2, none⟩ = some (.int .u16 0) := HV2.out.hr.cell 2 rfl; have z3 : w2.cell? ⟨w.heap.size, 3, none⟩ = some (.int .u16 0) := HV2.out.hr.cell 3 rfl; have z4 : w2.cell? ⟨w.heap.size, 4, none⟩ = some (.int .u16 0) := HV2.out.hr.cell 4 rfl; have z5 : w2.cell? ⟨w.heap.size, 5, none⟩ = some (.int .u16 0) := HV2.out.hr.cell 5 rfl; have z6 : w2.cell? ⟨w.heap.size, 6, none⟩ = some (.int .u16 0) := HV2.out.hr.cell 6 rfl; have z7 : w2.cell? ⟨w.heap.size, 7, none⟩ = some (.int .u16 0) := HV2.out.hr.cell 7 rfl
          have f0 := HV2.out.hr.free 0; have f1 := HV2.out.hr.free 1; have f2 := HV2.out.hr.free 2; have f3 := HV2.out.hr.free 3; have f4 := HV2.out.hr.free 4; have f5 := HV2.out.hr.free 5; have f6 := HV2.out.hr.free 6; have f7 := HV2.out.hr.free 7
          have z10 : w2.cell? ⟨w.heap.size + 1, 0, none⟩ = some (.int .u16 0) := HV2.out.ha.cell 0 rfl; have z11 : w2.cell? ⟨w.heap.size + 1, 1, none⟩ = some (.int .u16 0) := HV2.out.ha.cell 1 rfl; have z12 : w2.cell? ⟨w.heap.size + 1, 2, none⟩ = some (.int .u16 0) := HV2.out.ha.cell 2 rfl; have z13 : w2.cell? ⟨w.heap.size + 1, 3, none⟩ = some (.int .u16 0) := HV2.out.ha.cell 3 rfl; have z14 : w2.cell? ⟨w.heap.size + 1, 4, none⟩ = some (.int .u16 0) := HV2.out.ha.cell 4 rfl; have z15 : w2.cell? ⟨w.heap.size + 1, 5, none⟩ = some (.int .u16 0) := HV2.out.ha.cell 5 rfl; have z16 : w2.cell? ⟨w.heap.size + 1, 6, none⟩ = some (.int .u16 0) := HV2.out.ha.cell 6 rfl; have z17 : w2.cell? ⟨w.heap.size + 1, 7, none⟩ = some (.int .u16 0) := HV2.out.ha.cell 7 rfl
          go_wp2_with fail
          show bodyPost _ _ _ _ _ (stA w2 w.heap.size 0 0 0 0 0 0 0 0)
          exact bodyPost_ret (arr_done rfl _ _ _ 0 0 0 0 0 0 0 0 17 rfl rfl HV2.out.hr) rfl ⟨v6_no' HNO.out rfl, stA_below 0 0 0 0 0 0 0 0 HV2.out.hb (Nat.le_refl _)⟩
        | some xs =>
          obtain rfl : b = true := hmb.symm
          have ho := hown xs rfl
          obtain ⟨q', c', e'⟩ := wown_any ho
          simp only [Value.slice.injEq] at e'
          obtain ⟨rfl, rfl, rfl⟩ := e'
          have HROW := Lib.hid (rowIn_own ho hsz)
          obtain ⟨n, hn⟩ : ∃ n, xs.length = n := ⟨_, rfl⟩
          have HN := Lib.hid hn
          have hR := HR.out
          simp only [hn] at hR
          rw [hn] at HROW
          rw [hn]
          clear hown ho HR hmb hn
          by_cases h8 : n = 8
          · have g1 : ((n : Int) != 8) = false := by rw [h8]; rfl
            have HR := Lib.hid (hR.trans (if_pos h8))
            have HN8 := Lib.hid h8
            have h8a : n ≤ 8 := by omega
            have h8b : 8 ≤ n := by omega
            have h8c : zer8.length = 8 := rfl
            clear hR h8
            go_wp2_with fail
            go_loopw [54] (fun i wr => ∃ j : Nat, j ≤ n ∧ i = .int .i64 j ∧ Hid (VSt w (cpy (zer8) (0) xs j) wr) ∧ Hid (RowIn (w.heap.size + 1) wr (.slice p n c) xs)) (fun i _ => n - (intOf i).toNat)
            case atStart => exact ⟨0, by omega, rfl, Lib.hid (by rw [cpy_zero]; exact HV2.out), HROW⟩
            case round =>
              clear HV2 HROW
              obtain ⟨j, hj, rfl, HV, HROW⟩ := hrel
              by_cases hjn : j < n
              · have i1 : (j : Int) < (n : Int) := by omega
                obtain ⟨x, hx⟩ : ∃ x, xs[j]? = some x := ⟨_, List.getElem?_eq_getElem (by rw [HN.out]; exact hjn)⟩
                obtain ⟨p', cap', e', hcells⟩ := HROW.out
                obtain ⟨g, cur, hp', hgt, hHas, hcur⟩ := hcells j x hx
                simp only [Value.slice.injEq] at e'
                obtain ⟨e1, -, -⟩ := e'
                rw [hp'] at e1
                subst e1
                have hgl := hHas.lt
                have c0 := hHas.cell j hcur
                have HPUT := Lib.hid (HV.out.put (h8c) (by rw [HN.out]; omega) hx)
                have hl8 := cpy_len (j := j) (h8c) (show (0) + xs.length ≤ 8 by rw [HN.out]; omega) (by rw [HN.out]; omega)
                obtain ⟨old, m0⟩ : ∃ old : Nat, wr.cell? ⟨w.heap.size + 1, (0) + j, none⟩ = some (.int .u16 old) := ⟨_, HV.out.at hl8 _ (by omega)⟩
                have m1 := HV.out.ha.free ((0) + j)
                have HROWN := Lib.hid (HROW.out.set ((0) + j) (.int .u16 x))
                rw [Nat.zero_add] at m0 m1 HPUT HROWN
                clear hcells hHas hcur hp' hx HV HROW hl8
                go_wp2_with fail
                go_roundw
                case rel => exact ⟨j + 1, hjn, by go_num, HPUT, HROWN⟩
                case measure => simp [intOf]; omega
              · have i1 : ¬ (j : Int) < (n : Int) := by omega
                have hcs : cpy zer8 0 xs j = xs := by
                  unfold cpy
                  rw [List.take_of_length_le (show xs.length ≤ j by rw [HN.out]; omega), List.drop_of_length_le (by show 8 ≤ _; omega)]
                  simp
                rw [hcs] at HV
                have h8 : xs.length = 8 := by rw [HN.out]; omega
                clear hcs HN HROW HN8
                generalize xs = cs at *
                obtain ⟨a0, a1, a2, a3, a4, a5, a6, a7, rfl⟩ := len8 h8
                have z0 : wr.cell? ⟨w.heap.size, 0, none⟩ = some (.int .u16 0) := HV.out.hr.cell 0 rfl; have z1 : wr.cell? ⟨w.heap.size, 1, none⟩ = some (.int .u16 0) := HV.out.hr.cell 1 rfl; have z2 : wr.cell? ⟨w.heap.size, 2, none⟩ = some (.int .u16 0) := HV.out.hr.cell 2 rfl; have z3 : wr.cell? ⟨w.heap.size, 3, none⟩ = some (.int .u16 0) := HV.out.hr.cell 3 rfl; have z4 : wr.cell? ⟨w.heap.size, 4, none⟩ = some (.int .u16 0) := HV.out.hr.cell 4 rfl; have z5 : wr.cell? ⟨w.heap.size, 5, none⟩ = some (.int .u16 0) := HV.out.hr.cell 5 rfl; have z6 : wr.cell? ⟨w.heap.size, 6, none⟩ = some (.int .u16 0) := HV.out.hr.cell 6 rfl; have z7 : wr.cell? ⟨w.heap.size, 7, none⟩ = some (.int .u16 0) := HV.out.hr.cell 7 rfl
                have f0 := HV.out.hr.free 0; have f1 := HV.out.hr.free 1; have f2 := HV.out.hr.free 2; have f3 := HV.out.hr.free 3; have f4 := HV.out.hr.free 4; have f5 := HV.out.hr.free 5; have f6 := HV.out.hr.free 6; have f7 := HV.out.hr.free 7
                have z10 : wr.cell? ⟨w.heap.size + 1, 0, none⟩ = some (.int .u16 (a0 : Nat)) := HV.out.ha.cell 0 rfl; have z11 : wr.cell? ⟨w.heap.size + 1, 1, none⟩ = some (.int .u16 (a1 : Nat)) := HV.out.ha.cell 1 rfl; have z12 : wr.cell? ⟨w.heap.size + 1, 2, none⟩ = some (.int .u16 (a2 : Nat)) := HV.out.ha.cell 2 rfl; have z13 : wr.cell? ⟨w.heap.size + 1, 3, none⟩ = some (.int .u16 (a3 : Nat)) := HV.out.ha.cell 3 rfl; have z14 : wr.cell? ⟨w.heap.size + 1, 4, none⟩ = some (.int .u16 (a4 : Nat)) := HV.out.ha.cell 4 rfl; have z15 : wr.cell? ⟨w.heap.size + 1, 5, none⟩ = some (.int .u16 (a5 : Nat)) := HV.out.ha.cell 5 rfl; have z16 : wr.cell? ⟨w.heap.size + 1, 6, none⟩ = some (.int .u16 (a6 : Nat)) := HV.out.ha.cell 6 rfl; have z17 : wr.cell? ⟨w.heap.size + 1, 7, none⟩ = some (.int .u16 (a7 : Nat)) := HV.out.ha.cell 7 rfl
                clear h8
                go_wp2_with fail
                show bodyPost _ _ _ _ _ (stA wr w.heap.size a0 a1 a2 a3 a4 a5 a6 a7)
                exact bodyPost_ret (arr_done rfl _ _ _ a0 a1 a2 a3 a4 a5 a6 a7 0 rfl rfl HV.out.hr) rfl ⟨v6_yes' HR.out, stA_below a0 a1 a2 a3 a4 a5 a6 a7 HV.out.hb (Nat.le_refl _)⟩
          · have g1 : ((n : Int) != 8) = true := bne_iff_ne.2 (by omega)
            have HNO := Lib.hid (hR.trans (if_neg h8))
            clear hR h8
            have z0 : w2.cell? ⟨w.heap.size, 0, none⟩ = some (.int .u16 0) := HV2.out.hr.cell 0 rfl; have z1 : w2.cell? ⟨w.heap.size, 1, none⟩ = some (.int .u16 0) := HV2.out.hr.cell 1 rfl; have z2 : w2.cell? ⟨w.heap.size, 2, none⟩ = some (.int .u16 0) := HV2.out.hr.cell 2 rfl; have z3 : w2.cell? ⟨w.heap.size, 3, none⟩ = some (.int .u16 0) := HV2.out.hr.cell 3 rfl; have z4 : w2.cell? ⟨w.heap.size, 4, none⟩ = some (.int .u16 0) := HV2.out.hr.cell 4 rfl; have z5 : w2.cell? ⟨w.heap.size, 5, none⟩ = some (.int .u16 0) := HV2.out.hr.cell 5 rfl; have z6 : w2.cell? ⟨w.heap.size, 6, none⟩ = some (.int .u16 0) := HV2.out.hr.cell 6 rfl; have z7 : w2.cell? ⟨w.heap.size, 7, none⟩ = some (.int .u16 0) := HV2.out.hr.cell 7 rfl
            have f0 := HV2.out.hr.free 0; have f1 := HV2.out.hr.free 1; have f2 := HV2.out.hr.free 2; have f3 := HV2.out.hr.free 3; have f4 := HV2.out.hr.free 4; have f5 := HV2.out.hr.free 5; have f6 := HV2.out.hr.free 6; have f7 := HV2.out.hr.free 7
            have z10 : w2.cell? ⟨w.heap.size + 1, 0, none⟩ = some (.int .u16 0) := HV2.out.ha.cell 0 rfl; have z11 : w2.cell? ⟨w.heap.size + 1, 1, none⟩ = some (.int .u16 0) := HV2.out.ha.cell 1 rfl; have z12 : w2.cell? ⟨w.heap.size + 1, 2, none⟩ = some (.int .u16 0) := HV2.out.ha.cell 2 rfl; have z13 : w2.cell? ⟨w.heap.size + 1, 3, none⟩ = some (.int .u16 0) := HV2.out.ha.cell 3 rfl; have z14 : w2.cell? ⟨w.heap.size + 1, 4, none⟩ = some (.int .u16 0) := HV2.out.ha.cell 4 rfl; have z15 : w2.cell? ⟨w.heap.size + 1, 5, none⟩ = some (.int .u16 0) := HV2.out.ha.cell 5 rfl; have z16 : w2.cell? ⟨w.heap.size + 1, 6, none⟩ = some (.int .u16 0) := HV2.out.ha.cell 6 rfl; have z17 : w2.cell? ⟨w.heap.size + 1, 7, none⟩ = some (.int .u16 0) := HV2.out.ha.cell 7 rfl
            go_wp2_with fail
            show bodyPost _ _ _ _ _ (stA w2 w.heap.size 0 0 0 0 0 0 0 0)
            exact bodyPost_ret (arr_done rfl _ _ _ 0 0 0 0 0 0 0 0 17 rfl rfl HV2.out.hr) rfl ⟨v6_no' HNO.out rfl, stA_below 0 0 0 0 0 0 0 0 HV2.out.hb (Nat.le_refl _)⟩
      · obtain ⟨q, rfl⟩ : ∃ q : Nat, a = q := ⟨a.toNat, by omega⟩
        obtain ⟨hq2, hR⟩ := HREF2.out k q HL.out
        rw [len_list] at hq2
        have e1 : (s.extract 0 q).data.toList = s.data.toList.take q := ext_take s q
        have e2 : (s.extract (q + 2) s.size).data.toList = s.data.toList.drop (q + 2) := ext_drop s (q + 2)
        rw [← e1, ← e2] at hR
        have HR1 := Lib.hid (HRU.out (s.extract 0 q) false (by rw [ByteArray.size_extract]; omega))
        have HR2 := Lib.hid (HRU.out (s.extract (q + 2) s.size) true (by rw [ByteArray.size_extract]; omega))
        rw [show runsP false (s.extract 0 q).data.toList = pcs (s.extract 0 q).data.toList from rfl] at HR1
        rw [show runsP true (s.extract (q + 2) s.size).data.toList = pcsM (s.extract (q + 2) s.size).data.toList from rfl] at HR2
        have HR := Lib.hid hR
        have d2 : decide ((q : Int) < 0) = false := decide_eq_false h2
        have i1 : (q : Int) ≤ (s.size : Int) := by omega
        have i2 : (q : Int) + 2 ≤ (s.size : Int) := by omega
        have i3 : q ≤ s.size := by omega
        clear HREF1 HREF2 HL hex hR e1 e2 HRU
        have HM1 := Lib.hid (show ∀ x, pcs (s.extract 0 q).data.toList = some x → x.length ≤ 2097153 from fun x h => by
          have h1 := pcs_len h
          rw [len_list, ByteArray.size_extract] at h1
          omega)
        have HM2 := Lib.hid (show ∀ x, pcsM (s.extract (q + 2) s.size).data.toList = some x → x.length ≤ 2097163 from fun x h => by
          have h1 := pcsM_small h
          rw [len_list, ByteArray.size_extract] at h1
          omega)
        generalize pcs (s.extract 0 q).data.toList = M1 at *
        generalize pcsM (s.extract (q + 2) s.size).data.toList = M2 at *
        go_wp2_with fail
        refine (HR1.out _).mono ?_
        rintro e w2 ⟨⟨v1, b1, rfl, hm1⟩, hb2⟩
        obtain ⟨hmb1, ⟨p1, n1, c1, rfl⟩, hown1⟩ := hm1
        have HV2 := Lib.hid (HV.out.to hb2)
        have hsz1 := HV.out.ha.lt
        have HOW1 := Lib.hid hown1
        clear hb2 HR1 HV hown1
        go_wp2_with fail
        refine (HR2.out _).mono ?_
        rintro e w3 ⟨⟨v2, b2, rfl, hm2⟩, hb3⟩
        obtain ⟨hmb2, ⟨p2, n2, c2, rfl⟩, hown2⟩ := hm2
        have HV3 := Lib.hid (HV2.out.to hb3)
        have hsz2 := HV2.out.ha.lt
        have HB3 := Lib.hid hb3
        have HOW2 := Lib.hid hown2
        clear hb3 HR2 HV2 hown2
        cases M1 with
        | none =>
          obtain rfl : b1 = false := hmb1.symm
          have HNO := Lib.hid (show R = none from HR.out)
          clear HR HOW1 HOW2 hmb2
          have z0 : w3.cell? ⟨w.heap.size, 0, none⟩ = some (.int .u16 0) := HV3.out.hr.cell 0 rfl; have z1 : w3.cell? ⟨w.heap.size, 1, none⟩ = some (.int .u16 0) := HV3.out.hr.cell 1 rfl; have z2 : w3.cell? ⟨w.heap.size, 2, none⟩ = some (.int .u16 0) := HV3.out.hr.cell 2 rfl; have z3 : w3.cell? ⟨w.heap.size, 3, none⟩ = some (.int .u16 0) := HV3.out.hr.cell 3 rfl; have z4 : w3.cell? ⟨w.heap.size, 4, none⟩ = some (.int .u16 0) := HV3.out.hr.cell 4 rfl; have z5 : w3.cell? ⟨w.heap.size, 5, none⟩ = some (.int .u16 0) := HV3.out.hr.cell 5 rfl; have z6 : w3.cell? ⟨w.heap.size, 6, none⟩ = some (.int .u16 0) := HV3.out.hr.cell 6 rfl; have z7 : w3.cell? ⟨w.heap.size, 7, none⟩ = some (.int .u16 0) := HV3.out.hr.cell 7 rfl
          have f0 := HV3.out.hr.free 0; have f1 := HV3.out.hr.free 1; have f2 := HV3.out.hr.free 2; have f3 := HV3.out.hr.free 3; have f4 := HV3.out.hr.free 4; have f5 := HV3.out.hr.free 5; have f6 := HV3.out.hr.free 6; have f7 := HV3.out.hr.free 7
          have z10 : w3.cell? ⟨w.heap.size + 1, 0, none⟩ = some (.int .u16 0) := HV3.out.ha.cell 0 rfl; have z11 : w3.cell? ⟨w.heap.size + 1, 1, none⟩ = some (.int .u16 0) := HV3.out.ha.cell 1 rfl; have z12 : w3.cell? ⟨w.heap.size + 1, 2, none⟩ = some (.int .u16 0) := HV3.out.ha.cell 2 rfl; have z13 : w3.cell? ⟨w.heap.size + 1, 3, none⟩ = some (.int .u16 0) := HV3.out.ha.cell 3 rfl; have z14 : w3.cell? ⟨w.heap.size + 1, 4, none⟩ = some (.int .u16 0) := HV3.out.ha.cell 4 rfl; have z15 : w3.cell? ⟨w.heap.size + 1, 5, none⟩ = some (.int .u16 0) := HV3.out.ha.cell 5 rfl; have z16 : w3.cell? ⟨w.heap.size + 1, 6, none⟩ = some (.int .u16 0) := HV3.out.ha.cell 6 rfl; have z17 : w3.cell? ⟨w.heap.size + 1, 7, none⟩ = some (.int .u16 0) := HV3.out.ha.cell 7 rfl
          go_wp2_with fail
          show bodyPost _ _ _ _ _ (stA w3 w.heap.size 0 0 0 0 0 0 0 0)
          exact bodyPost_ret (arr_done rfl _ _ _ 0 0 0 0 0 0 0 0 17 rfl rfl HV3.out.hr) rfl ⟨v6_no' HNO.out rfl, stA_below 0 0 0 0 0 0 0 0 HV3.out.hb (Nat.le_refl _)⟩
        | some xs =>
          obtain rfl : b1 = true := hmb1.symm
          cases M2 with
          | none =>
            obtain rfl : b2 = false := hmb2.symm
            have HNO := Lib.hid (show R = none from HR.out)
            clear HR HOW1 HOW2
            have z0 : w3.cell? ⟨w.heap.size, 0, none⟩ = some (.int .u16 0) := HV3.out.hr.cell 0 rfl; have z1 : w3.cell? ⟨w.heap.size, 1, none⟩ = some (.int .u16 0) := HV3.out.hr.cell 1 rfl; have z2 : w3.cell? ⟨w.heap.size, 2, none⟩ = some (.int .u16 0) := HV3.out.hr.cell 2 rfl; have z3 : w3.cell? ⟨w.heap.size, 3, none⟩ = some (.int .u16 0) := HV3.out.hr.cell 3 rfl; have z4 : w3.cell? ⟨w.heap.size, 4, none⟩ = some (.int .u16 0) := HV3.out.hr.cell 4 rfl; have z5 : w3.cell? ⟨w.heap.size, 5, none⟩ = some (.int .u16 0) := HV3.out.hr.cell 5 rfl; have z6 : w3.cell? ⟨w.heap.size, 6, none⟩ = some (.int .u16 0) := HV3.out.hr.cell 6 rfl; have z7 : w3.cell? ⟨w.heap.size, 7, none⟩ = some (.int .u16 0) := HV3.out.hr.cell 7 rfl
            have f0 := HV3.out.hr.free 0; have f1 := HV3.out.hr.free 1; have f2 := HV3.out.hr.free 2; have f3 := HV3.out.hr.free 3; have f4 := HV3.out.hr.free 4; have f5 := HV3.out.hr.free 5; have f6 := HV3.out.hr.free 6; have f7 := HV3.out.hr.free 7
            have z10 : w3.cell? ⟨w.heap.size + 1, 0, none⟩ = some (.int .u16 0) := HV3.out.ha.cell 0 rfl; have z11 : w3.cell? ⟨w.heap.size + 1, 1, none⟩ = some (.int .u16 0) := HV3.out.ha.cell 1 rfl; have z12 : w3.cell? ⟨w.heap.size + 1, 2, none⟩ = some (.int .u16 0) := HV3.out.ha.cell 2 rfl; have z13 : w3.cell? ⟨w.heap.size + 1, 3, none⟩ = some (.int .u16 0) := HV3.out.ha.cell 3 rfl; have z14 : w3.cell? ⟨w.heap.size + 1, 4, none⟩ = some (.int .u16 0) := HV3.out.ha.cell 4 rfl; have z15 : w3.cell? ⟨w.heap.size + 1, 5, none⟩ = some (.int .u16 0) := HV3.out.ha.cell 5 rfl; have z16 : w3.cell? ⟨w.heap.size + 1, 6, none⟩ = some (.int .u16 0) := HV3.out.ha.cell 6 rfl; have z17 : w3.cell? ⟨w.heap.size + 1, 7, none⟩ = some (.int .u16 0) := HV3.out.ha.cell 7 rfl
            go_wp2_with fail
            show bodyPost _ _ _ _ _ (stA w3 w.heap.size 0 0 0 0 0 0 0 0)
            exact bodyPost_ret (arr_done rfl _ _ _ 0 0 0 0 0 0 0 0 17 rfl rfl HV3.out.hr) rfl ⟨v6_no' HNO.out rfl, stA_below 0 0 0 0 0 0 0 0 HV3.out.hb (Nat.le_refl _)⟩
          | some ys =>
            obtain rfl : b2 = true := hmb2.symm
            have ho1 := HOW1.out xs rfl
            have ho2 := HOW2.out ys rfl
            obtain ⟨q', c', e'⟩ := wown_any ho1
            simp only [Value.slice.injEq] at e'
            obtain ⟨rfl, rfl, rfl⟩ := e'
            obtain ⟨q', c', e'⟩ := wown_any ho2
            simp only [Value.slice.injEq] at e'
            obtain ⟨rfl, rfl, rfl⟩ := e'
            have HROW1 := Lib.hid ((rowIn_own ho1 hsz1).to HB3.out)
            have HROW2 := Lib.hid (rowIn_own ho2 hsz2)
            obtain ⟨n1, hn1⟩ : ∃ n, xs.length = n := ⟨_, rfl⟩
            obtain ⟨n2, hn2⟩ : ∃ n, ys.length = n := ⟨_, rfl⟩
            have HN1 := Lib.hid hn1
            have HN2 := Lib.hid hn2
            have hR := HR.out
            simp only [hn1, hn2] at hR
            rw [hn1] at HROW1
            rw [hn2] at HROW2
            have hn1b : n1 ≤ 2097153 := hn1 ▸ HM1.out xs rfl
            have hn2b : n2 ≤ 2097163 := hn2 ▸ HM2.out ys rfl
            rw [hn1, hn2]
            clear ho1 ho2 HR hmb1 hmb2 hn1 hn2 HOW1 HOW2 HB3 HM1 HM2
            by_cases h7 : n1 + n2 ≤ 7
            · have g1 : ¬ (7 : Int) < (n1 : Int) + (n2 : Int) := by omega
              have g2 : decide ((7 : Int) < (n1 : Int) + (n2 : Int)) = false := decide_eq_false g1
              have HR := Lib.hid (hR.trans (if_pos h7))
              have h8c : zer8.length = 8 := rfl
              have h8a : n1 ≤ 8 := by omega
              clear hR
              go_wp2_with fail
              go_loopw [96] (fun i wr => ∃ j : Nat, j ≤ n1 ∧ i = .int .i64 j ∧ Hid (VSt w (cpy (zer8) (0) xs j) wr) ∧ Hid (RowIn (w.heap.size + 1) wr (.slice p1 n1 c1) xs) ∧ Hid (RowIn (w.heap.size + 1) wr (.slice p2 n2 c2) ys)) (fun i _ => n1 - (intOf i).toNat)
              case atStart => exact ⟨0, by omega, rfl, Lib.hid (by rw [cpy_zero]; exact HV3.out), HROW1, HROW2⟩
              case round =>
                clear HV3 HROW1 HROW2
                obtain ⟨j, hj, rfl, HV, HROW, HROW2⟩ := hrel
                by_cases hjn : j < n1
                · have i1 : (j : Int) < (n1 : Int) := by omega
                  obtain ⟨x, hx⟩ : ∃ x, xs[j]? = some x := ⟨_, List.getElem?_eq_getElem (by rw [HN1.out]; exact hjn)⟩
                  obtain ⟨p', cap', e', hcells⟩ := HROW.out
                  obtain ⟨g, cur, hp', hgt, hHas, hcur⟩ := hcells j x hx
                  simp only [Value.slice.injEq] at e'
                  obtain ⟨e1, -, -⟩ := e'
                  rw [hp'] at e1
                  subst e1
                  have hgl := hHas.lt
                  have c0 := hHas.cell j hcur
                  have HPUT := Lib.hid (HV.out.put (h8c) (by rw [HN1.out]; omega) hx)
                  have hl8 := cpy_len (j := j) (h8c) (show (0) + xs.length ≤ 8 by rw [HN1.out]; omega) (by rw [HN1.out]; omega)
                  obtain ⟨old, m0⟩ : ∃ old : Nat, wr.cell? ⟨w.heap.size + 1, (0) + j, none⟩ = some (.int .u16 old) := ⟨_, HV.out.at hl8 _ (by omega)⟩
                  have m1 := HV.out.ha.free ((0) + j)
                  have HROWN := Lib.hid (HROW.out.set ((0) + j) (.int .u16 x))
                  have HROW2N := Lib.hid (HROW2.out.set ((0) + j) (.int .u16 x))
                  rw [Nat.zero_add] at m0 m1 HPUT HROWN HROW2N
                  clear hcells hHas hcur hp' hx HV HROW hl8
                  go_wp2_with fail
                  go_roundw
                  case rel => exact ⟨j + 1, hjn, by go_num, HPUT, HROWN, HROW2N⟩
                  case measure => simp [intOf]; omega
                · have i1 : ¬ (j : Int) < (n1 : Int) := by omega
                  obtain ⟨cs1, hcs1⟩ : ∃ cs1, cpy zer8 0 xs j = cs1 := ⟨_, rfl⟩
                  have h8c1 : cs1.length = 8 := by rw [← hcs1]; exact cpy_len rfl (by rw [HN1.out]; omega) (by rw [HN1.out]; omega)
                  have HJ := Lib.hid (show j = xs.length from by rw [HN1.out]; omega)
                  rw [hcs1] at HV
                  have HCS1 := Lib.hid hcs1
                  clear hcs1 h8c HROW
                  have h8c := h8c1
                  clear h8c1
                  go_wp2_with fail
                  go_loopw [107] (fun i wr => ∃ j : Nat, j ≤ n2 ∧ i = .int .i64 j ∧ Hid (VSt w (cpy (cs1) (8 - n2) ys j) wr) ∧ Hid (RowIn (w.heap.size + 1) wr (.slice p2 n2 c2) ys)) (fun i _ => n2 - (intOf i).toNat)
                  case atStart => exact ⟨0, by omega, rfl, Lib.hid (by rw [cpy_zero]; exact HV.out), HROW2⟩
                  case round =>
                    clear HV HROW2
                    obtain ⟨j, hj, rfl, HV, HROW⟩ := hrel
                    by_cases hjn : j < n2
                    · have i1 : (j : Int) < (n2 : Int) := by omega
                      obtain ⟨x, hx⟩ : ∃ x, ys[j]? = some x := ⟨_, List.getElem?_eq_getElem (by rw [HN2.out]; exact hjn)⟩
                      obtain ⟨p', cap', e', hcells⟩ := HROW.out
                      obtain ⟨g, cur, hp', hgt, hHas, hcur⟩ := hcells j x hx
                      simp only [Value.slice.injEq] at e'
                      obtain ⟨e1, -, -⟩ := e'
                      rw [hp'] at e1
                      subst e1
                      have hgl := hHas.lt
                      have c0 := hHas.cell j hcur
                      have HPUT := Lib.hid (HV.out.put (h8c) (by rw [HN2.out]; omega) hx)
                      have hl8 := cpy_len (j := j) (h8c) (show (8 - n2) + ys.length ≤ 8 by rw [HN2.out]; omega) (by rw [HN2.out]; omega)
                      obtain ⟨old, m0⟩ : ∃ old : Nat, wr.cell? ⟨w.heap.size + 1, (8 - n2) + j, none⟩ = some (.int .u16 old) := ⟨_, HV.out.at hl8 _ (by omega)⟩
                      have m1 := HV.out.ha.free ((8 - n2) + j)
                      have HROWN := Lib.hid (HROW.out.set ((8 - n2) + j) (.int .u16 x))
                      have o0 : (0 : Int) ≤ (8 : Int) - (n2 : Int) + (j : Int) := by omega
                      have o1 : ((8 : Int) - (n2 : Int) + (j : Int)).toNat = 8 - n2 + j := by omega
                      have o2 : (8 : Int) - (n2 : Int) + (j : Int) < 8 := by omega
                      clear hcells hHas hcur hp' hx HV HROW hl8
                      go_wp2_with fail
                      go_roundw
                      case rel => exact ⟨j + 1, hjn, by go_num, HPUT, HROWN⟩
                      case measure => simp [intOf]; omega
                    · have i1 : ¬ (j : Int) < (n2 : Int) := by omega
                      have hcs : cpy cs1 (8 - n2) ys j = xs ++ List.replicate (8 - n1 - n2) 0 ++ ys := by
                        have hsl := short_list xs ys (by rw [HN1.out, HN2.out]; exact h7)
                        have hjy : j = ys.length := by rw [HN2.out]; omega
                        rw [← HCS1.out, HJ.out, hjy]
                        unfold cpy
                        rw [List.take_of_length_le (Nat.le_refl xs.length), List.take_of_length_le (Nat.le_refl ys.length), ← HN2.out, ← HN1.out]
                        exact hsl
                      rw [hcs] at HV
                      have h8 : (xs ++ List.replicate (8 - n1 - n2) 0 ++ ys).length = 8 := by
                        simp only [List.length_append, List.length_replicate]
                        rw [HN1.out, HN2.out]; omega
                      clear hcs HN1 HN2 HROW HCS1 HJ h8c
                      generalize (xs ++ List.replicate (8 - n1 - n2) 0 ++ ys) = cs at *
                      obtain ⟨a0, a1, a2, a3, a4, a5, a6, a7, rfl⟩ := len8 h8
                      have z0 : wr.cell? ⟨w.heap.size, 0, none⟩ = some (.int .u16 0) := HV.out.hr.cell 0 rfl; have z1 : wr.cell? ⟨w.heap.size, 1, none⟩ = some (.int .u16 0) := HV.out.hr.cell 1 rfl; have z2 : wr.cell? ⟨w.heap.size, 2, none⟩ = some (.int .u16 0) := HV.out.hr.cell 2 rfl; have z3 : wr.cell? ⟨w.heap.size, 3, none⟩ = some (.int .u16 0) := HV.out.hr.cell 3 rfl; have z4 : wr.cell? ⟨w.heap.size, 4, none⟩ = some (.int .u16 0) := HV.out.hr.cell 4 rfl; have z5 : wr.cell? ⟨w.heap.size, 5, none⟩ = some (.int .u16 0) := HV.out.hr.cell 5 rfl; have z6 : wr.cell? ⟨w.heap.size, 6, none⟩ = some (.int .u16 0) := HV.out.hr.cell 6 rfl; have z7 : wr.cell? ⟨w.heap.size, 7, none⟩ = some (.int .u16 0) := HV.out.hr.cell 7 rfl
                      have f0 := HV.out.hr.free 0; have f1 := HV.out.hr.free 1; have f2 := HV.out.hr.free 2; have f3 := HV.out.hr.free 3; have f4 := HV.out.hr.free 4; have f5 := HV.out.hr.free 5; have f6 := HV.out.hr.free 6; have f7 := HV.out.hr.free 7
                      have z10 : wr.cell? ⟨w.heap.size + 1, 0, none⟩ = some (.int .u16 (a0 : Nat)) := HV.out.ha.cell 0 rfl; have z11 : wr.cell? ⟨w.heap.size + 1, 1, none⟩ = some (.int .u16 (a1 : Nat)) := HV.out.ha.cell 1 rfl; have z12 : wr.cell? ⟨w.heap.size + 1, 2, none⟩ = some (.int .u16 (a2 : Nat)) := HV.out.ha.cell 2 rfl; have z13 : wr.cell? ⟨w.heap.size + 1, 3, none⟩ = some (.int .u16 (a3 : Nat)) := HV.out.ha.cell 3 rfl; have z14 : wr.cell? ⟨w.heap.size + 1, 4, none⟩ = some (.int .u16 (a4 : Nat)) := HV.out.ha.cell 4 rfl; have z15 : wr.cell? ⟨w.heap.size + 1, 5, none⟩ = some (.int .u16 (a5 : Nat)) := HV.out.ha.cell 5 rfl; have z16 : wr.cell? ⟨w.heap.size + 1, 6, none⟩ = some (.int .u16 (a6 : Nat)) := HV.out.ha.cell 6 rfl; have z17 : wr.cell? ⟨w.heap.size + 1, 7, none⟩ = some (.int .u16 (a7 : Nat)) := HV.out.ha.cell 7 rfl
                      clear h8
                      go_wp2_with fail
                      show bodyPost _ _ _ _ _ (stA wr w.heap.size a0 a1 a2 a3 a4 a5 a6 a7)
                      exact bodyPost_ret (arr_done rfl _ _ _ a0 a1 a2 a3 a4 a5 a6 a7 0 rfl rfl HV.out.hr) rfl ⟨v6_yes' HR.out, stA_below a0 a1 a2 a3 a4 a5 a6 a7 HV.out.hb (Nat.le_refl _)⟩
            · have g1 : (7 : Int) < (n1 : Int) + (n2 : Int) := by omega
              have g2 : decide ((7 : Int) < (n1 : Int) + (n2 : Int)) = true := decide_eq_true g1
              have HNO := Lib.hid (hR.trans (if_neg h7))
              clear hR h7
              have z0 : w3.cell? ⟨w.heap.size, 0, none⟩ = some (.int .u16 0) := HV3.out.hr.cell 0 rfl; have z1 : w3.cell? ⟨w.heap.size, 1, none⟩ = some (.int .u16 0) := HV3.out.hr.cell 1 rfl; have z2 : w3.cell? ⟨w.heap.size, 2, none⟩ = some (.int .u16 0) := HV3.out.hr.cell 2 rfl; have z3 : w3.cell? ⟨w.heap.size, 3, none⟩ = some (.int .u16 0) := HV3.out.hr.cell 3 rfl; have z4 : w3.cell? ⟨w.heap.size, 4, none⟩ = some (.int .u16 0) := HV3.out.hr.cell 4 rfl; have z5 : w3.cell? ⟨w.heap.size, 5, none⟩ = some (.int .u16 0) := HV3.out.hr.cell 5 rfl; have z6 : w3.cell? ⟨w.heap.size, 6, none⟩ = some (.int .u16 0) := HV3.out.hr.cell 6 rfl; have z7 : w3.cell? ⟨w.heap.size, 7, none⟩ = some (.int .u16 0) := HV3.out.hr.cell 7 rfl
              have f0 := HV3.out.hr.free 0; have f1 := HV3.out.hr.free 1; have f2 := HV3.out.hr.free 2; have f3 := HV3.out.hr.free 3; have f4 := HV3.out.hr.free 4; have f5 := HV3.out.hr.free 5; have f6 := HV3.out.hr.free 6; have f7 := HV3.out.hr.free 7
              have z10 : w3.cell? ⟨w.heap.size + 1, 0, none⟩ = some (.int .u16 0) := HV3.out.ha.cell 0 rfl; have z11 : w3.cell? ⟨w.heap.size + 1, 1, none⟩ = some (.int .u16 0) := HV3.out.ha.cell 1 rfl; have z12 : w3.cell? ⟨w.heap.size + 1, 2, none⟩ = some (.int .u16 0) := HV3.out.ha.cell 2 rfl; have z13 : w3.cell? ⟨w.heap.size + 1, 3, none⟩ = some (.int .u16 0) := HV3.out.ha.cell 3 rfl; have z14 : w3.cell? ⟨w.heap.size + 1, 4, none⟩ = some (.int .u16 0) := HV3.out.ha.cell 4 rfl; have z15 : w3.cell? ⟨w.heap.size + 1, 5, none⟩ = some (.int .u16 0) := HV3.out.ha.cell 5 rfl; have z16 : w3.cell? ⟨w.heap.size + 1, 6, none⟩ = some (.int .u16 0) := HV3.out.ha.cell 6 rfl; have z17 : w3.cell? ⟨w.heap.size + 1, 7, none⟩ = some (.int .u16 0) := HV3.out.ha.cell 7 rfl
              go_wp2_with fail
              show bodyPost _ _ _ _ _ (stA w3 w.heap.size 0 0 0 0 0 0 0 0)
              exact bodyPost_ret (arr_done rfl _ _ _ 0 0 0 0 0 0 0 0 17 rfl rfl HV3.out.hr) rfl ⟨v6_no' HNO.out rfl, stA_below 0 0 0 0 0 0 0 0 HV3.out.hb (Nat.le_refl _)⟩
end Go.Proofs.YtflddokngplgiaaDoor
