/-
  The walk of bastionlaw11.QueryJoins: it answers true for every two texts and every list of pairs within the form's reach, and changes nothing that was there.
-/
import Derived.Test.YtikdncmgppckfaaDoorF9
import Derived.Deep.CutRange
namespace Go.Proofs.YtikdncmgppckfaaDoor
open Go.RowKit
theorem wrP_ne (x : Fd) (acc : List UInt8) : wrP x acc ≠ [] := by
  unfold wrP
  intro h
  simp at h
theorem prL_ne (l : List Fd) (k : Nat) (h0 : 0 < k) (hk : k ≤ l.length) : prL (l.take k) ≠ [] := by
  obtain ⟨j, rfl⟩ : ∃ j, k = j + 1 := ⟨k - 1, by omega⟩
  rw [prL_snoc l j (by omega)]
  exact wrP_ne _ _
set_option maxHeartbeats 4000000 in
set_option maxRecDepth 100000 in
theorem QueryJoins_walk (a b : ByteArray) (ha : a.size ≤ 140737488351232) (hb : b.size ≤ 140737488351232) (p : Option Addr) (l : List Fd) (cap : Nat) (hl : l.length ≤ 4398046511104) (hcap : l.length ≤ cap) (hcap2 : cap ≤ 9223372036854775807) (w : World) (hv : Lst w (.slice p l.length cap) l) (hM : ML w) :
    Calls Tryd.prog 8 #[.string a, .string b, .slice p l.length cap] w fun e w' => e = .returned (.bool true) ∧ Below w.heap.size w w' := by
  have HM := Lib.hid hM
  have HV := Lib.hid hv
  obtain ⟨A, hA⟩ : ∃ A, parL a.data.toList = A := ⟨_, rfl⟩
  obtain ⟨B, hB⟩ : ∃ B, parL b.data.toList = B := ⟨_, rfl⟩
  obtain ⟨ra, hra⟩ : ∃ r, parI a.data.toList = r := ⟨_, rfl⟩
  obtain ⟨rb, hrb⟩ : ∃ r, parI b.data.toList = r := ⟨_, rfl⟩
  obtain ⟨c, hc⟩ : ∃ c : ByteArray, a ++ ⟨#[38]⟩ ++ b = c := ⟨_, rfl⟩
  have hz1 : (a ++ (⟨#[38]⟩ : ByteArray)).size = a.size + 1 := by rw [ByteArray.size_append]; rfl
  have hcs : c.size = a.size + 1 + b.size := by rw [← hc, ByteArray.size_append, hz1]
  have n1 : ¬ 9223372036854775807 < a.size + 1 := by omega
  have n2 : ¬ 9223372036854775807 < a.size + 1 + b.size := by omega
  have hcl : c.data.toList = a.data.toList ++ 38 :: b.data.toList := by
    rw [← hc, ByteArray.data_append, ByteArray.data_append]; simp
  have HCC := Lib.hid hc
  have HA := Lib.hid (And.intro hA hra)
  have HB := Lib.hid (And.intro hB hrb)
  have HAB := Lib.hid hcl
  have HCS := Lib.hid hcs
  clear hc hcl hcs hA hra hB hrb hv hM
  go_enter Tryd.func8, Tryd.ntmps8
  go_wp2_with fail
  refine (lives_is _ HM.out).mono ?_
  rintro e w1 ⟨rfl, hb1⟩
  have HB1 := Lib.hid hb1
  clear hb1
  go_wp2_with fail
  refine (parse_any a (by omega) A HA.out.1 ra HA.out.2 w1 (HM.out.to HB1.out)).mono ?_
  rintro e w2 ⟨⟨q1, c1, rfl, ho1⟩, hb2⟩
  have HB2 := Lib.hid (bel2 HB1.out hb2)
  have HO1 := Lib.hid ho1
  clear ho1 hb2
  go_wp2_with fail
  refine (parse_any b (by omega) B HB.out.1 rb HB.out.2 w2 (HM.out.to HB2.out)).mono ?_
  rintro e w3 ⟨⟨q2, c2, rfl, ho2⟩, hb3⟩
  have HB3 := Lib.hid (bel2 HB2.out hb3)
  have HO2 := Lib.hid ho2
  have HO1' := Lib.hid (Ks.own_to HO1.out hb3)
  clear ho2 hb3
  go_wp2_with fail
  rw [HCC.out]
  obtain ⟨C, hC⟩ : ∃ C, parL c.data.toList = C := ⟨_, rfl⟩
  obtain ⟨rc, hrc⟩ : ∃ r, parI c.data.toList = r := ⟨_, rfl⟩
  have HC := Lib.hid (And.intro hC hrc)
  clear hC hrc
  refine (parse_any c (by have := HCS.out; omega) C HC.out.1 rc HC.out.2 w3 (HM.out.to HB3.out)).mono ?_
  rintro e w4 ⟨⟨q3, c3, rfl, ho3⟩, hb4⟩
  have HB4 := Lib.hid (bel2 HB3.out hb4)
  have HO3 := Lib.hid ho3
  have HO2' := Lib.hid (Ks.own_to HO2.out hb4)
  have HO1'' := Lib.hid (Ks.own_to HO1'.out hb4)
  clear ho3 hb4
  go_upto_region 6 with fail
  go_cut [58] from 7 (fun s58 wx => s58 = .bool false ∧ Hid (Below w.heap.size w wx))
  case first =>
    by_cases h1 : ra = 0
    · subst h1
      by_cases h2 : rb = 0
      · subst h2
        by_cases h3 : rc = 0
        · subst h3
          have HCE := Lib.hid (show A ++ B = C by
            have e1 : parL a.data.toList = paL a.data.toList := by unfold parL; rw [HA.out.2]; rfl
            have e2 : parL b.data.toList = paL b.data.toList := by unfold parL; rw [HB.out.2]; rfl
            have e3 : parL c.data.toList = paL c.data.toList := by unfold parL; rw [HC.out.2]; rfl
            rw [← HA.out.1, ← HB.out.1, ← HC.out.1, e1, e2, e3, HAB.out, pa_join])
          have HN := Lib.hid (bnew w4 (.cells #[] 38))
          have HE := Lib.hid (show OwnF (w4.alloc (.cells #[] 38)) w4.heap.size (.slice (some ⟨w4.heap.size, 0, none⟩) 0 0) [] from ⟨rfl, .inr ⟨w4.heap.size, 0, #[], rfl, Nat.le_refl _, heap_alloc_new w4 _, Nat.le_refl _, by decide, rfl, rfl⟩⟩)
          have HAL := Lib.hid (show A.length ≤ 256 by rw [← HA.out.1]; exact parL_len _)
          have HBL := Lib.hid (show B.length ≤ 256 by rw [← HB.out.1]; exact parL_len _)
          go_wp2_with (first
            | (at_builtin; refine wpList_append_pairs rfl (.tmp 51) (.tmp 52) rfl w4.heap.size _ [] rfl HE.out w1.heap.size _ A rfl (Ks.own_to HO1''.out HN.out) (by have := HAL.out; simp; omega) (by simp) ?_; intro v5 w5 own5 grow5 _; have HB5 := Lib.hid (show Below w4.heap.size w4 w5 from HN.out.grown grow5 (by simp) (fun k hk => (HE.out.lt k hk).1)); have HO5 := Lib.hid own5; clear own5 grow5)
            | (at_builtin; refine wpList_append_pairs rfl (.tmp 53) (.tmp 54) rfl w4.heap.size _ A rfl HO5.out w2.heap.size _ B rfl (Ks.own_to HO2'.out HB5.out) (by have := HAL.out; have := HBL.out; omega) HB5.out.size ?_; intro v6 w6 own6 grow6 _; have HB6 := Lib.hid (show Below w4.heap.size w4 w6 from HB5.out.grown grow6 HB5.out.size (fun k hk => (HO5.out.lt k hk).1)); have HO6 := Lib.hid own6; clear own6 grow6))
          refine (same_isP (.slice q3 C.length c3) v6 C (A ++ B) true (decide_eq_true HCE.out.symm) (by have := parL_len c.data.toList; rw [HC.out.1] at this; omega) (by have := HAL.out; have := HBL.out; simp; omega) w6 (lst_own (Ks.own_to HO3.out HB6.out)) (lst_own HO6.out)).mono ?_
          rintro e w7 ⟨rfl, hb7⟩
          have HB7 := Lib.hid (bel2 (bel2 HB4.out HB6.out) hb7)
          clear hb7
          go_wp2_with fail
          go_meet
          exact ⟨rfl, HB7⟩
        · have g3 : (rc == 0) = false := by rw [beq_eq_false_iff_ne]; exact h3
          go_wp2_with fail
          go_meet
          exact ⟨rfl, HB4⟩
      · have g2 : (rb == 0) = false := by rw [beq_eq_false_iff_ne]; exact h2
        go_wp2_with fail
        go_meet
        exact ⟨rfl, HB4⟩
    · have g1 : (ra == 0) = false := by rw [beq_eq_false_iff_ne]; exact h1
      go_wp2_with fail
      go_meet
      exact ⟨rfl, HB4⟩
  case rest =>
    obtain ⟨rfl, HBc⟩ := hcut
    have HMc := Lib.hid (HM.out.to HBc.out)
    have HVc := Lib.hid (HV.out.below HBc.out)
    have HNC := Lib.hid hcap2
    by_cases h1 : 256 < l.length
    · have HP := Lib.hid (print_many _ l (by omega) h1 wc HVc.out)
      clear h1
      go_wp2_with fail
      refine HP.out.mono ?_
      rintro e w5 ⟨rfl, hb5⟩
      have HB5 := Lib.hid (bel2 HBc.out hb5)
      clear hb5
      go_wp2
      go_ret
      exact ⟨rfl, HB5.out⟩
    · by_cases h2 : l.any longF = true
      · have HP := Lib.hid (print_long _ l (by omega) (by omega) h2 wc HVc.out)
        clear h1 h2
        go_wp2_with fail
        refine HP.out.mono ?_
        rintro e w5 ⟨rfl, hb5⟩
        have HB5 := Lib.hid (bel2 HBc.out hb5)
        clear hb5
        go_wp2
        go_ret
        exact ⟨rfl, HB5.out⟩
      · have hL : l.any longF = false := by simpa using h2
        have h256 : l.length ≤ 256 := by omega
        have HP := Lib.hid (print_ok _ l (prL l) rfl h256 hL wc HMc.out HVc.out)
        have HLL := Lib.hid hL
        clear h1 h2 hL hl
        go_wp2_with fail
        refine HP.out.mono ?_
        rintro e w5 ⟨rfl, hb5⟩
        have HB5 := Lib.hid (bel2 HBc.out hb5)
        clear hb5
        go_wp2_with fail
        go_loopw [15, 70] (fun s15 i wr => ∃ (k : Nat) (tt : ByteArray), k ≤ l.length ∧ i = .int .i64 k ∧ s15 = .string tt ∧ Hid (tt.data.toList = prL (l.take k)) ∧ Hid (Below w.heap.size w wr)) (fun _ i _ => l.length - (intOf i).toNat)
        case atStart => exact ⟨0, ⟨#[]⟩, by omega, rfl, rfl, Lib.hid rfl, HB5⟩
        case round =>
          obtain ⟨k, tt, hk, rfl, rfl, HTT, HBW⟩ := hrel
          by_cases hlt : k < l.length
          · have HVr := HV.out.below HBW.out
            obtain ⟨p', cap', hpe, hcc⟩ := HVr
            simp only [Value.slice.injEq] at hpe
            obtain ⟨rfl, -, rfl⟩ := hpe
            obtain ⟨g, o, rfl, hg, hx, hy⟩ := hcc k l[k] (getF hlt)
            have i1 : (k : Int) < (l.length : Int) := by omega
            have HL1 := Lib.hid (show Lst wr (.slice (some ⟨g, o + k * 2, none⟩) 1 (cap - k)) [l[k]] from ⟨_, _, rfl, fun i x hi => by
              match i, hi with
              | 0, hi => simp at hi; subst hi; exact ⟨g, o + k * 2, rfl, hg, hx, hy⟩
              | i + 1, hi => simp at hi⟩)
            have hxl : longF l[k] = false := by
              cases h : longF l[k] with
              | false => rfl
              | true => have := HLL.out; rw [List.any_eq_true.2 ⟨_, List.getElem_mem hlt, h⟩] at this; cases this
            have HSN := Lib.hid (prL_snoc l k hlt)
            have HPK := Lib.hid (prL_len l (fun x hx => by
              cases h : longF x with
              | false => rfl
              | true => have := HLL.out; rw [List.any_eq_true.2 ⟨_, hx, h⟩] at this; cases this) k)
            obtain ⟨P1, hP1⟩ : ∃ P1, prL [l[k]] = P1 := ⟨_, rfl⟩
            have hP1l : P1.length ≤ 100000 := by
              rw [← hP1]
              have := wrP_len l[k] [] hxl
              exact this
            have HPR := Lib.hid (print_ok _ [l[k]] P1 hP1 (by simp) (by simp [hxl]) wr (HM.out.to HBW.out) HL1.out)
            have hP1e : P1 = wrT l[k].1.data.toList ++ [61] ++ wrT l[k].2.data.toList := by rw [← hP1]; rfl
            have HPE := Lib.hid hP1e
            obtain ⟨O, hO⟩ : ∃ O : ByteArray, O = ⟨P1.toArray⟩ := ⟨_, rfl⟩
            have hOl : O.data.toList = P1 := by rw [hO]
            have hOs : O.size ≤ 100000 := by rw [← len_list, hOl]; exact hP1l
            have hts : tt.size ≤ 25600000 := by rw [← len_list, HTT.out]; have := HPK.out; omega
            have HO := Lib.hid hO
            have HOL := Lib.hid hOl
            have n3 : ¬ 9223372036854775807 < tt.size + O.size := by omega
            have hz2 : (tt ++ (⟨#[38]⟩ : ByteArray)).size = tt.size + 1 := by rw [ByteArray.size_append]; rfl
            have n4 : ¬ 9223372036854775807 < tt.size + 1 := by omega
            have n5 : ¬ 9223372036854775807 < tt.size + 1 + O.size := by omega
            clear hx hy hcc hxl hP1 hP1l hP1e hO hOl
            go_wp2_with fail
            refine HPR.out.mono ?_
            rw [← HO.out]
            rintro e w6 ⟨rfl, hb6⟩
            have HB6 := Lib.hid (bel2 HBW.out hb6)
            clear hb6
            by_cases hk0 : k = 0
            · subst hk0
              go_wp2
              go_roundw
              case rel => exact ⟨1, _, by omega, by go_num, rfl, Lib.hid (by
                rw [HSN.out, ByteArray.data_append, Array.toList_append, HTT.out, HOL.out, HPE.out]
                simp [wrP, prL]), HB6⟩
              case measure => simp [intOf]; omega
            · have hk1 : (0 : Int) < (k : Int) := by omega
              go_wp2
              go_roundw
              case rel => exact ⟨k + 1, _, by omega, by go_num, rfl, Lib.hid (by
                rw [HSN.out, ByteArray.data_append, ByteArray.data_append, Array.toList_append, Array.toList_append, HTT.out, HOL.out, HPE.out]
                unfold wrP
                rw [if_neg (prL_ne l k (by omega) (by omega))]
                simp), HB6⟩
              case measure => simp [intOf]; omega
          · have hT : tt = ⟨(prL l).toArray⟩ := by
              apply ByteArray.ext
              apply Array.ext'
              rw [HTT.out, List.take_of_length_le (by omega)]
            subst hT
            go_wp2
            go_ret
            exact ⟨rfl, HBW.out⟩
theorem QueryJoins_std (a : ByteArray) (ha : a.size ≤ 140737488351232) (b : ByteArray) (hb : b.size ≤ 140737488351232) (p : Option Addr) (l : List Fd) (cap : Nat) (hcap : l.length ≤ cap) (h32 : cap * 32 ≤ 140737488351232) (_ : p = none → cap = 0) (w : World) (hv : Lst w (.slice p l.length cap) l) (hM : ML w) :
    Calls Tryd.prog 8 #[.string a, .string b, .slice p l.length cap] w fun e w' => e = .returned (.bool true) ∧ Below w.heap.size w w' :=
  QueryJoins_walk a b ha hb p l cap (by omega) hcap (by omega) w hv hM
end Go.Proofs.YtikdncmgppckfaaDoor
