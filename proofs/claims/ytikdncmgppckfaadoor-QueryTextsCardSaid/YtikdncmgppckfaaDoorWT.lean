import Derived.Test.YtikdncmgppckfaaDoorGT
import Derived.Test.YtikdncmgppckfaaDoorG3
/-
  The walk of bastionlaw11.QueryTexts: it answers true for every list of pairs and every text within the form's reach, and changes nothing that was there.
-/
namespace Go.Proofs.YtikdncmgppckfaaDoor
open Go.RowKit
set_option maxHeartbeats 4000000 in
set_option maxRecDepth 100000 in
theorem QueryTexts_std (p : Option Addr) (l : List Fd) (cap : Nat) (hcap : l.length ≤ cap) (h32 : cap * 32 ≤ 140737488351232) (hn : p = none → cap = 0) (s : ByteArray) (hs : s.size ≤ 140737488351232) (w : World) (hv : Lst w (.slice p l.length cap) l) (hM : ML w) :
    Calls Tryd.prog 3 #[.slice p l.length cap, .string s] w fun e w' => e = .returned (.bool true) ∧ Below w.heap.size w w' := by
  have HM := Lib.hid hM
  have HV := Lib.hid hv
  obtain ⟨C, hC⟩ : ∃ C, parL s.data.toList = C := ⟨_, rfl⟩
  obtain ⟨rc, hrc⟩ : ∃ r, parI s.data.toList = r := ⟨_, rfl⟩
  have HS := Lib.hid (And.intro hC hrc)
  have HCL := Lib.hid (show C.length ≤ 256 from hC ▸ parL_len _)
  obtain ⟨T, r, hTr⟩ : ∃ (T : List UInt8) (r : Int), (if 256 < l.length then ([], 3) else if l.any longF then ([], 4) else (prL l, 0)) = (T, r) := ⟨_, _, rfl⟩
  obtain ⟨t, ht⟩ : ∃ t : ByteArray, t = ⟨T.toArray⟩ := ⟨_, rfl⟩
  have HP := Lib.hid (fun v W hm hM hW => print_any v l hm W hM hW T r hTr)
  have HR := Lib.hid (fun v W hm hW => rprint_any v l hm W hW T r hTr)
  rw [← ht] at HP HR
  obtain ⟨n, hln⟩ : ∃ n, l.length = n := ⟨_, rfl⟩
  have HLN := Lib.hid hln
  have HB0 := Lib.hid (bnew w (.cells #[] 38))
  have HE := Lib.hid (show OwnF (w.alloc (.cells #[] 38)) w.heap.size (.slice (some ⟨w.heap.size, 0, none⟩) 0 0) [] from ⟨rfl, .inr ⟨w.heap.size, 0, #[], rfl, Nat.le_refl _, heap_alloc_new w _, Nat.le_refl _, by decide, rfl, rfl⟩⟩)
  have HF : ∀ x : Int, (x == x) = true := fun x => beq_self_eq_true x
  clear hv hM hC hrc hTr ht
  cases p with
  | none =>
    have hc0 := hn rfl
    subst hc0
    have hl0 : l = [] := List.eq_nil_of_length_eq_zero (by omega)
    have hn0 : n = 0 := by omega
    subst hl0
    subst hn0
    clear hln hn HF
    rw [List.length_nil] at *
    go_enter Tryd.func3, Tryd.ntmps3
    go_wp2_with (at_builtin; refine wpList_append_pairs rfl (.tmp 14) (.tmp 15) rfl w.heap.size _ [] rfl HE.out 0 _ [] rfl (World.ownsRow_nil _ _ _ _) (by simp) (by simp) ?_; intro v1 w1 own1 grow1 _; have HB1 := Lib.hid (show Below w.heap.size w w1 from HB0.out.grown grow1 (by simp) (fun k hk => (HE.out.lt k hk).1)); have HO1 := Lib.hid (show OwnF w1 w.heap.size v1 [] from own1); clear own1 grow1)
    obtain ⟨q1, c1, rfl⟩ := Ks.own_slice HO1.out
    refine (HP.out _ w1 (by simp) (HM.out.to HB1.out) (lst_own HO1.out)).mono ?_
    rintro e w2 ⟨rfl, hb2⟩
    have HB2 := Lib.hid (bel2 HB1.out hb2)
    have HO2 := Lib.hid (Ks.own_to HO1.out hb2)
    clear hb2
    go_wp2_with fail
    refine (HR.out _ w2 (by simp) (HV.out.below HB2.out)).mono ?_
    rintro e w3 ⟨rfl, hb3⟩
    have HB3 := Lib.hid (bel2 HB2.out hb3)
    have HO3 := Lib.hid (Ks.own_to HO2.out hb3)
    clear hb3
    go_wp2_with fail
    refine (parse_any s (by omega) C HS.out.1 rc HS.out.2 w3 (HM.out.to HB3.out)).mono ?_
    rintro e w4 ⟨⟨q4, c4, rfl, ho4⟩, hb4⟩
    have HB4 := Lib.hid (bel2 HB3.out hb4)
    have HO4 := Lib.hid (Ks.own_to HO3.out hb4)
    have HC4 := Lib.hid ho4
    clear ho4 hb4
    go_wp2_with fail
    refine (rparse_any s (by omega) C HS.out.1 rc HS.out.2 w4).mono ?_
    rintro e w5 ⟨⟨q5, c5, rfl, ho5⟩, hb5⟩
    have HB5 := Lib.hid (bel2 HB4.out hb5)
    have HO5 := Lib.hid (Ks.own_to HO4.out hb5)
    have HC5 := Lib.hid (Ks.own_to HC4.out hb5)
    have HD5 := Lib.hid ho5
    clear ho5 hb5
    go_wp2_with fail
    refine (lives_is _ (HM.out.to HB5.out)).mono ?_
    rintro e w6 ⟨rfl, hb6⟩
    have HB6 := Lib.hid (bel2 HB5.out hb6)
    have HO6 := Lib.hid (Ks.own_to HO5.out hb6)
    have HC6 := Lib.hid (Ks.own_to HC5.out hb6)
    have HD6 := Lib.hid (Ks.own_to HD5.out hb6)
    clear hb6
    go_wp2_with fail
    refine (same_isP (.slice q4 C.length c4) (.slice q5 C.length c5) C C true (decide_eq_true rfl) (by have := HCL.out; omega) (by have := HCL.out; omega) w6 (lst_own HC6.out) (lst_own HD6.out)).mono ?_
    rintro e w7 ⟨rfl, hb7⟩
    have HB7 := Lib.hid (bel2 HB6.out hb7)
    have HO7 := Lib.hid (Ks.own_to HO6.out hb7)
    clear hb7
    go_wp2_with fail
    refine (same_isP _ _ [] [] true (decide_eq_true rfl) (by simp) (by simp) w7 (lst_own HO7.out) (HV.out.below HB7.out)).mono ?_
    rintro e w8 ⟨rfl, hb8⟩
    have HB8 := Lib.hid (bel2 HB7.out hb8)
    clear hb8
    go_wp2
    go_ret
    exact ⟨rfl, HB8.out⟩
  | some ad =>
    obtain ⟨i0, hi, hz0, hz1, hz2⟩ := info_parts Ks.infoField
    have HN := Lib.hid (lst_news (HV.out.below HB0.out))
    rw [hln] at HV hcap ⊢
    clear hn HF hln
    have hnb : n ≤ 4398046510976 := by omega
    have HNL := Lib.hid (show l.length ≤ 4398046510976 by rw [HLN.out]; omega)
    go_enter Tryd.func3, Tryd.ntmps3
    go_wp2_with (at_builtin; refine wpList_append_own _ rfl (.tmp 14) (.tmp 15) 22 rfl w.heap.size 38 i0 (.agg #[.string ⟨#[]⟩, .string ⟨#[]⟩]) 2 32 Tryd.underlying22 hi hz0 hz1 hz2 rfl (by decide) (.slice (some ⟨w.heap.size, 0, none⟩) 0 0) 0 [] rfl HE.out ad n cap (encFs l) rfl (by rw [Ks.encFs_len, HLN.out]) HN.out (encFs_one l) (by unfold maxLen; omega) (by omega) (by simp) ?_; intro v1 w1 own1 grow1 _; have HB1 := Lib.hid (show Below w.heap.size w w1 from HB0.out.grown grow1 (by simp) (fun k hk => (HE.out.lt k hk).1)); have HO1 := Lib.hid (show OwnF w1 w.heap.size v1 l from by have := own1; rw [Nat.zero_add, List.nil_append] at this; unfold OwnF; rw [HLN.out]; exact this); clear own1 grow1)
    obtain ⟨q1, c1, rfl⟩ := Ks.own_slice HO1.out
    refine (HP.out _ w1 (by have := HNL.out; omega) (HM.out.to HB1.out) (lst_own HO1.out)).mono ?_
    rintro e w2 ⟨rfl, hb2⟩
    have HB2 := Lib.hid (bel2 HB1.out hb2)
    have HO2 := Lib.hid (Ks.own_to HO1.out hb2)
    clear hb2
    go_wp2_with fail
    refine (HR.out _ w2 (by have := HNL.out; omega) (HV.out.below HB2.out)).mono ?_
    rintro e w3 ⟨rfl, hb3⟩
    have HB3 := Lib.hid (bel2 HB2.out hb3)
    have HO3 := Lib.hid (Ks.own_to HO2.out hb3)
    clear hb3
    go_wp2_with fail
    refine (parse_any s (by omega) C HS.out.1 rc HS.out.2 w3 (HM.out.to HB3.out)).mono ?_
    rintro e w4 ⟨⟨q4, c4, rfl, ho4⟩, hb4⟩
    have HB4 := Lib.hid (bel2 HB3.out hb4)
    have HO4 := Lib.hid (Ks.own_to HO3.out hb4)
    have HC4 := Lib.hid ho4
    clear ho4 hb4
    go_wp2_with fail
    refine (rparse_any s (by omega) C HS.out.1 rc HS.out.2 w4).mono ?_
    rintro e w5 ⟨⟨q5, c5, rfl, ho5⟩, hb5⟩
    have HB5 := Lib.hid (bel2 HB4.out hb5)
    have HO5 := Lib.hid (Ks.own_to HO4.out hb5)
    have HC5 := Lib.hid (Ks.own_to HC4.out hb5)
    have HD5 := Lib.hid ho5
    clear ho5 hb5
    go_wp2_with fail
    refine (lives_is _ (HM.out.to HB5.out)).mono ?_
    rintro e w6 ⟨rfl, hb6⟩
    have HB6 := Lib.hid (bel2 HB5.out hb6)
    have HO6 := Lib.hid (Ks.own_to HO5.out hb6)
    have HC6 := Lib.hid (Ks.own_to HC5.out hb6)
    have HD6 := Lib.hid (Ks.own_to HD5.out hb6)
    clear hb6
    go_wp2_with fail
    refine (same_isP (.slice q4 C.length c4) (.slice q5 C.length c5) C C true (decide_eq_true rfl) (by have := HCL.out; omega) (by have := HCL.out; omega) w6 (lst_own HC6.out) (lst_own HD6.out)).mono ?_
    rintro e w7 ⟨rfl, hb7⟩
    have HB7 := Lib.hid (bel2 HB6.out hb7)
    have HO7 := Lib.hid (Ks.own_to HO6.out hb7)
    clear hb7
    go_wp2_with fail
    refine (same_isP _ _ l l true (decide_eq_true rfl) (by have := HNL.out; omega) (by have := HNL.out; omega) w7 (lst_own HO7.out) (HV.out.below HB7.out)).mono ?_
    rintro e w8 ⟨rfl, hb8⟩
    have HB8 := Lib.hid (bel2 HB7.out hb8)
    clear hb8
    go_wp2
    go_ret
    exact ⟨rfl, HB8.out⟩
end Go.Proofs.YtikdncmgppckfaaDoor
