/-
  The walk of CspPolicies.
-/
import Derived.Test.YtempmmkdppelaaaGreatDoorR9M
import Derived.Test.YtempmmkdppelaaaGreatDoorW7M
import Derived.Test.YtempmmkdppelaaaGreatDoorW9M
namespace Go.Proofs.YtempmmkdppelaaaGreatDoor
open Go.RowKit
theorem rparse_dirs (s : ByteArray) (rep : Bool) (st : Except Nat (List Dir)) (hst : parseP s = st) (hm : s.size ≤ 281474976710656) (w : World) :
    Calls Tryz.prog 11 #[.string s, .bool rep] w fun e w' => (∃ q c, e = .returned (.tuple #[.agg #[.slice q (paL st).length c, .bool (paR rep st)], .int .i64 (paC st)]) ∧ Dirs w' (.slice q (paL st).length c) (paL st)) ∧ Below w.heap.size w w' := by
  refine (rparse_is s rep hm w).mono ?_
  rintro e w' ⟨h, hb⟩
  refine ⟨?_, hb⟩
  rw [hst] at h
  cases st with
  | error c => exact ⟨none, 0, h, none, 0, rfl, Nat.le_refl _, fun i x hx => by simp [paL] at hx⟩
  | ok l' =>
    obtain ⟨v, rs, he, ho, hl, _⟩ := h
    have hp := ho.dirs
    rw [← hl] at hp
    have hp' := hp
    obtain ⟨p, cap, hv', _, _⟩ := hp
    subst hv'
    exact ⟨p, cap, he, hp'⟩
theorem rheader_pols (lv : Value) (l : List ByteArray) (rep : Bool) (st : Except Nat (List (List Dir))) (hst : headP l = st) (hm : l.length ≤ 2097152) (hz : ∀ x ∈ l, x.size ≤ 2097152) (hp : (partsH l).length ≤ 2199023255552) (w : World) (hv : Strs w lv l) :
    Calls Tryz.prog 13 #[lv, .bool rep] w fun e w' => (∃ q c, e = .returned (.tuple #[.slice q (heL st).length c, .int .i64 (heC st)]) ∧ Pols w' rep (.slice q (heL st).length c) (heL st)) ∧ Below w.heap.size w w' := by
  refine (rheader_is lv l rep hm hz hp w hv).mono ?_
  rintro e w' ⟨h, hb⟩
  refine ⟨?_, hb⟩
  rw [hst] at h
  cases st with
  | error c => exact ⟨none, 0, h, none, 0, rfl, fun i x hx => by simp [heL] at hx⟩
  | ok l' =>
    obtain ⟨v, ps, he, ho, hl⟩ := h
    have hp := ho.lies
    rw [← hl] at hp
    have hp' := hp
    obtain ⟨p, cap, hv', _⟩ := hp
    subst hv'
    exact ⟨p, cap, he, hp'⟩
theorem partsH_len {l : List ByteArray} (hm : l.length ≤ 1048576) (hz : ∀ x ∈ l, x.size ≤ 1048576) : (partsH l).length ≤ 2199023255552 := by
  unfold partsH
  have h := flat_len (f := fun s : ByteArray => Ks.partsAt 44 s.data.toList) (k := 1048577) (l := l) fun x hx => by
    have h1 := (parts_size 44 x.data.toList).2
    rw [Ks.len_list] at h1
    have := hz x hx
    omega
  have h2 : l.length * 1048577 ≤ 1048576 * 1048577 := Nat.mul_le_mul_right _ hm
  omega
theorem parse_modL (s : ByteArray) : Mod (paL (parseP s)) := by
  cases h : parseP s with
  | error c => exact ⟨by simp [paL], by simp [paL]⟩
  | ok l => exact mod_of (parseP_mod h)
theorem rtext_any (l : List Dir) (rep : Bool) (h : Bk l) : ∃ (T : ByteArray) (r : Int), (∀ (v : Value) (w : World), Dirs w v l → Calls Tryz.prog 14 #[.agg #[v, .bool rep]] w fun e w' => e = .returned (.tuple #[.string T, .int .i64 r]) ∧ Below w.heap.size w w') ∧ (∀ (v : Value) (w : World), Dirs w v l → Calls Tryz.prog 15 #[.agg #[v, .bool rep]] w fun e w' => e = .returned (.tuple #[.string T, .int .i64 r]) ∧ Below w.heap.size w w') := by
  by_cases hok : okP l
  · exact ⟨⟨(txtL l).toArray⟩, 0, fun v w hv => text_is v l rep (txtL l) 0 (.inl ⟨hok, rfl, rfl⟩) (own_txt h hok) (by have := h.1; omega) (bk_small h) w hv, fun v w hv => rtext_is v l rep (txtL l) 0 (.inl ⟨hok, rfl, rfl⟩) (own_txt h hok) (by have := h.1; omega) (bk_small h) w hv⟩
  · exact ⟨⟨#[]⟩, 20, fun v w hv => text_is v l rep [] 20 (.inr ⟨hok, rfl, rfl⟩) (by simp) (by have := h.1; omega) (bk_small h) w hv, fun v w hv => rtext_is v l rep [] 20 (.inr ⟨hok, rfl, rfl⟩) (by simp) (by have := h.1; omega) (bk_small h) w hv⟩
theorem rcheck_any (l : List Dir) (rep : Bool) (h : Bk l) : ∃ r : Int, (∀ (v : Value) (w : World), Dirs w v l → Calls Tryz.prog 21 #[.agg #[v, .bool rep]] w fun e w' => e = .returned (.int .i64 r) ∧ Below w.heap.size w w') ∧ (∀ (v : Value) (w : World), Dirs w v l → Calls Tryz.prog 22 #[.agg #[v, .bool rep]] w fun e w' => e = .returned (.int .i64 r) ∧ Below w.heap.size w w') := by
  by_cases hok : okP l
  · exact ⟨0, fun v w hv => check_is v l rep 0 (.inl ⟨hok, rfl⟩) (by have := h.1; omega) (bk_small h) w hv, fun v w hv => rcheck_is v l rep 0 (.inl ⟨hok, rfl⟩) (by have := h.1; omega) (bk_small h) w hv⟩
  · exact ⟨20, fun v w hv => check_is v l rep 20 (.inr ⟨hok, rfl⟩) (by have := h.1; omega) (bk_small h) w hv, fun v w hv => rcheck_is v l rep 20 (.inr ⟨hok, rfl⟩) (by have := h.1; omega) (bk_small h) w hv⟩
set_option maxHeartbeats 4000000 in
set_option maxRecDepth 100000 in
theorem CspPolicies_std (s : ByteArray) (lq : Option Addr) (lc : Nat) (ls : List ByteArray) (rep : Bool) (p : Option Addr) (cap : Nat) (l : List Dir) (prep : Bool) (nm : ByteArray) (hls : ls.length ≤ 1048576 ∧ ∀ x ∈ ls, x.size ≤ 1048576) (hk : Bk l) (hs : s.size + nm.size ≤ 1048576) (w : World) (hlv : Strs w (.slice lq ls.length lc) ls) (hv : Dirs w (.slice p l.length cap) l) (hM : ML w) :
    Calls Tryz.prog 3 #[.string s, .slice lq ls.length lc, .bool rep, .agg #[.slice p l.length cap, .bool prep], .string nm] w fun e w' => e = .returned (.bool true) ∧ Below w.heap.size w w' := by
  have HP10 := Lib.hid (fun W : World => parse_dirs s rep _ rfl (by omega) W)
  have HP11 := Lib.hid (fun W : World => rparse_dirs s rep _ rfl (by omega) W)
  have HMA := Lib.hid (parse_modL s)
  generalize parseP s = sa at *
  have HH12 := Lib.hid (fun (W : World) h => header_pols (.slice lq ls.length lc) ls rep _ rfl (by omega) (fun x hx => by have := hls.2 x hx; omega) W h)
  have HH13 := Lib.hid (fun (W : World) h => rheader_pols (.slice lq ls.length lc) ls rep _ rfl (by omega) (fun x hx => by have := hls.2 x hx; omega) (partsH_len hls.1 hls.2) W h)
  have HMH := Lib.hid (headP_mod ls)
  generalize headP ls = sh at *
  obtain ⟨T, r, hT1, hT2⟩ := rtext_any l prep hk
  have HT1 := Lib.hid hT1
  have HT2 := Lib.hid hT2
  obtain ⟨rc, hC1, hC2⟩ := rcheck_any l prep hk
  have HC1 := Lib.hid hC1
  have HC2 := Lib.hid hC2
  have HF1 := Lib.hid (fun (W : World) (h : Dirs W (.slice p l.length cap) l) => find_is (.slice p l.length cap) l prep nm (by omega) (by have := hk.1; omega) (bk_small hk) W h)
  have HF2 := Lib.hid (fun (W : World) (h : Dirs W (.slice p l.length cap) l) => rfind_is (.slice p l.length cap) l prep nm hk.1 (fun x hx => (hk.2 x hx).2.1) W h)
  have hfl := find_len nm (l := l) (fun x hx => (hk.2 x hx).2.1)
  generalize findD nm l = fd at *
  obtain ⟨vs, fb⟩ := fd
  simp only at HF1 HF2 hfl
  generalize (if fb = true then nm else (⟨#[]⟩ : ByteArray)) = s0 at *
  have HSD := Lib.hid (fun (va vb : Value) (W : World) (h1 : Strs W va vs) (h2 : Strs W vb vs) => sameDirective_is va vb (s0, vs) (s0, vs) (by simp only; omega) (by simp only; omega) W h1 h2 true ((sameD_iff _ _).2 rfl))
  simp only at HSD
  generalize paL sa = la at *
  generalize paR rep sa = ra at *
  generalize paC sa = ca at *
  generalize heL sh = lh at *
  generalize heC sh = ch at *
  have HSM := Lib.hid (fun (q1 q2 : Option Addr) (k1 k2 : Nat) (W : World) (h1 : Dirs W (.slice q1 la.length k1) la) (h2 : Dirs W (.slice q2 la.length k2) la) => same14_is _ _ la la ra ra HMA.out HMA.out W h1 h2 true (by rw [sameP_rep]; simp))
  have HSA := Lib.hid (fun (q1 q2 : Option Addr) (k1 k2 : Nat) (W : World) (h1 : Pols W rep (.slice q1 lh.length k1) lh) (h2 : Pols W rep (.slice q2 lh.length k2) lh) => sameAll_is _ _ rep lh lh (by have := HMH.out.1; omega) (by have := HMH.out.1; omega) HMH.out.2 HMH.out.2 W h1 h2 true (by simp))
  obtain ⟨n, hn⟩ : ∃ n, l.length = n := ⟨_, rfl⟩
  obtain ⟨nl, hnl⟩ : ∃ nl, ls.length = nl := ⟨_, rfl⟩
  obtain ⟨m, hm⟩ : ∃ m, vs.length = m := ⟨_, rfl⟩
  obtain ⟨na, hna⟩ : ∃ na, la.length = na := ⟨_, rfl⟩
  obtain ⟨nh, hnh⟩ : ∃ nh, lh.length = nh := ⟨_, rfl⟩
  rw [hn] at HF1 HF2 hv ⊢
  rw [hnl] at HH12 HH13 hlv ⊢
  rw [hm] at HF1 HF2 hfl
  rw [hna] at HP10 HP11 HSM
  rw [hnh] at HH12 HH13 HSA
  have HMV := Lib.hid hm
  clear hT1 hT2 hC1 hC2 hk hn hnl hm hna hnh hls
  have gT : (T.toList == T.toList) = true := by simp
  have gr : (r == r) = true := by simp
  have gc : (rc == rc) = true := by simp
  have gf : (fb == fb) = true := by simp
  obtain ⟨X0, hX0⟩ : ∃ X0, w.alloc (.cells #[.slice p n cap, .bool prep] 25) = X0 := ⟨_, rfl⟩
  have hb0 : Below w.heap.size w X0 := hX0 ▸ bnew w _
  have HB0 := Lib.hid hb0
  have HXP0 := Lib.hid (show Has X0 w.heap.size (.cells #[.slice p n cap, .bool prep] 25) from hX0 ▸ Has.new w _)
  have HDP0 := Lib.hid (hv.to hb0)
  have HLS0 := Lib.hid (hlv.to hb0)
  have HM0 := Lib.hid (hM.to hb0)
  clear hb0 hv hlv hM
  go_enter Tryz.func3, Tryz.ntmps3
  go_wp2_with fail
  refine (HP10.out _).mono ?_
  rintro e w1 ⟨⟨qa, ka, rfl, hd1⟩, hb1⟩
  obtain ⟨X1, hX1⟩ : ∃ X1, w1.alloc (.cells #[.slice qa na ka, .bool ra] 25) = X1 := ⟨_, rfl⟩
  have hn1 : Below w1.heap.size w1 X1 := hX1 ▸ bnew w1 _
  have hc1 := hb1.trans (hn1.mono hb1.size)
  have HXP1 := Lib.hid (HXP0.out.to hc1)
  have HDP1 := Lib.hid (HDP0.out.to hc1)
  have HLS1 := Lib.hid (HLS0.out.to hc1)
  have HM1 := Lib.hid (HM0.out.to hc1)
  have HXA1 := Lib.hid (show Has X1 w1.heap.size (.cells #[.slice qa na ka, .bool ra] 25) from hX1 ▸ Has.new w1 _)
  have HDA1 := Lib.hid (hd1.to hn1)
  have HB1 := Lib.hid (HB0.out.trans (hc1.mono HB0.out.size))
  clear HXP0 HDP0 HLS0 HM0 HB0 hb1 hc1 hn1
  clear hd1
  go_wp2_with fail
  refine (HP11.out _).mono ?_
  rintro e w2 ⟨⟨qb, kb, rfl, hd2⟩, hb2⟩
  obtain ⟨X2, hX2⟩ : ∃ X2, w2.alloc (.cells #[.slice qb na kb, .bool ra] 25) = X2 := ⟨_, rfl⟩
  have hn2 : Below w2.heap.size w2 X2 := hX2 ▸ bnew w2 _
  have hc2 := hb2.trans (hn2.mono hb2.size)
  have HXP2 := Lib.hid (HXP1.out.to hc2)
  have HDP2 := Lib.hid (HDP1.out.to hc2)
  have HLS2 := Lib.hid (HLS1.out.to hc2)
  have HM2 := Lib.hid (HM1.out.to hc2)
  have HXA2 := Lib.hid (HXA1.out.to hc2)
  have HDA2 := Lib.hid (HDA1.out.to hc2)
  have HXB2 := Lib.hid (show Has X2 w2.heap.size (.cells #[.slice qb na kb, .bool ra] 25) from hX2 ▸ Has.new w2 _)
  have HDB2 := Lib.hid (hd2.to hn2)
  have HB2 := Lib.hid (HB1.out.trans (hc2.mono HB1.out.size))
  clear HXP1 HDP1 HLS1 HM1 HXA1 HDA1 HB1 hb2 hc2 hn2
  clear hd2
  go_wp2_with fail
  refine (HH12.out _ HLS2.out).mono ?_
  rintro e w3 ⟨⟨qc, kc, rfl, hd3⟩, hb3⟩
  have HXP3 := Lib.hid (HXP2.out.to hb3)
  have HDP3 := Lib.hid (HDP2.out.to hb3)
  have HLS3 := Lib.hid (HLS2.out.to hb3)
  have HM3 := Lib.hid (HM2.out.to hb3)
  have HXA3 := Lib.hid (HXA2.out.to hb3)
  have HDA3 := Lib.hid (HDA2.out.to hb3)
  have HXB3 := Lib.hid (HXB2.out.to hb3)
  have HDB3 := Lib.hid (HDB2.out.to hb3)
  have HPC3 := Lib.hid (hd3)
  have HB3 := Lib.hid (HB2.out.trans (hb3.mono HB2.out.size))
  clear HXP2 HDP2 HLS2 HM2 HXA2 HDA2 HXB2 HDB2 HB2 hb3
  clear hd3
  go_wp2_with fail
  refine (HH13.out _ HLS3.out).mono ?_
  rintro e w4 ⟨⟨qd, kd, rfl, hd4⟩, hb4⟩
  have HXP4 := Lib.hid (HXP3.out.to hb4)
  have HDP4 := Lib.hid (HDP3.out.to hb4)
  have HLS4 := Lib.hid (HLS3.out.to hb4)
  have HM4 := Lib.hid (HM3.out.to hb4)
  have HXA4 := Lib.hid (HXA3.out.to hb4)
  have HDA4 := Lib.hid (HDA3.out.to hb4)
  have HXB4 := Lib.hid (HXB3.out.to hb4)
  have HDB4 := Lib.hid (HDB3.out.to hb4)
  have HPC4 := Lib.hid (HPC3.out.to hb4)
  have HPD4 := Lib.hid (hd4)
  have HB4 := Lib.hid (HB3.out.trans (hb4.mono HB3.out.size))
  clear HXP3 HDP3 HLS3 HM3 HXA3 HDA3 HXB3 HDB3 HPC3 HB3 hb4
  clear hd4
  have x0 := HXP4.out.cell 0 rfl
  have x1 := HXP4.out.cell 1 rfl
  go_wp2_with fail
  refine (HT1.out _ _ HDP4.out).mono ?_
  rintro e w5 ⟨rfl, hb5⟩
  have HXP5 := Lib.hid (HXP4.out.to hb5)
  have HDP5 := Lib.hid (HDP4.out.to hb5)
  have HLS5 := Lib.hid (HLS4.out.to hb5)
  have HM5 := Lib.hid (HM4.out.to hb5)
  have HXA5 := Lib.hid (HXA4.out.to hb5)
  have HDA5 := Lib.hid (HDA4.out.to hb5)
  have HXB5 := Lib.hid (HXB4.out.to hb5)
  have HDB5 := Lib.hid (HDB4.out.to hb5)
  have HPC5 := Lib.hid (HPC4.out.to hb5)
  have HPD5 := Lib.hid (HPD4.out.to hb5)
  have HB5 := Lib.hid (HB4.out.trans (hb5.mono HB4.out.size))
  clear HXP4 HDP4 HLS4 HM4 HXA4 HDA4 HXB4 HDB4 HPC4 HPD4 HB4 hb5
  clear x0 x1
  have x0 := HXP5.out.cell 0 rfl
  have x1 := HXP5.out.cell 1 rfl
  go_wp2_with fail
  refine (HT2.out _ _ HDP5.out).mono ?_
  rintro e w6 ⟨rfl, hb6⟩
  have HXP6 := Lib.hid (HXP5.out.to hb6)
  have HDP6 := Lib.hid (HDP5.out.to hb6)
  have HLS6 := Lib.hid (HLS5.out.to hb6)
  have HM6 := Lib.hid (HM5.out.to hb6)
  have HXA6 := Lib.hid (HXA5.out.to hb6)
  have HDA6 := Lib.hid (HDA5.out.to hb6)
  have HXB6 := Lib.hid (HXB5.out.to hb6)
  have HDB6 := Lib.hid (HDB5.out.to hb6)
  have HPC6 := Lib.hid (HPC5.out.to hb6)
  have HPD6 := Lib.hid (HPD5.out.to hb6)
  have HB6 := Lib.hid (HB5.out.trans (hb6.mono HB5.out.size))
  clear HXP5 HDP5 HLS5 HM5 HXA5 HDA5 HXB5 HDB5 HPC5 HPD5 HB5 hb6
  clear x0 x1
  have x0 := HXP6.out.cell 0 rfl
  have x1 := HXP6.out.cell 1 rfl
  go_wp2_with fail
  refine (HF1.out _ HDP6.out).mono ?_
  rintro e w7 ⟨⟨qx, kx, rfl, ho7⟩, hb7⟩
  obtain ⟨X7, hX7⟩ : ∃ X7, w7.alloc (.cells #[.string s0, .slice qx m kx] 35) = X7 := ⟨_, rfl⟩
  have hn7 : Below w7.heap.size w7 X7 := hX7 ▸ bnew w7 _
  have hc7 := hb7.trans (hn7.mono hb7.size)
  have HXP7 := Lib.hid (HXP6.out.to hc7)
  have HDP7 := Lib.hid (HDP6.out.to hc7)
  have HLS7 := Lib.hid (HLS6.out.to hc7)
  have HM7 := Lib.hid (HM6.out.to hc7)
  have HXA7 := Lib.hid (HXA6.out.to hc7)
  have HDA7 := Lib.hid (HDA6.out.to hc7)
  have HXB7 := Lib.hid (HXB6.out.to hc7)
  have HDB7 := Lib.hid (HDB6.out.to hc7)
  have HPC7 := Lib.hid (HPC6.out.to hc7)
  have HPD7 := Lib.hid (HPD6.out.to hc7)
  have HXX7 := Lib.hid (show Has X7 w7.heap.size (.cells #[.string s0, .slice qx m kx] 35) from hX7 ▸ Has.new w7 _)
  have HSX7 := Lib.hid ((strs_own ho7).to hn7)
  have HB7 := Lib.hid (HB6.out.trans (hc7.mono HB6.out.size))
  clear HXP6 HDP6 HLS6 HM6 HXA6 HDA6 HXB6 HDB6 HPC6 HPD6 HB6 hb7 hc7 hn7
  clear x0 x1 ho7
  have x0 := HXP7.out.cell 0 rfl
  have x1 := HXP7.out.cell 1 rfl
  go_wp2_with fail
  refine (HF2.out _ HDP7.out).mono ?_
  rintro e w8 ⟨⟨qy, ky, rfl, ho8⟩, hb8⟩
  obtain ⟨X8, hX8⟩ : ∃ X8, w8.alloc (.cells #[.string s0, .slice qy m ky] 35) = X8 := ⟨_, rfl⟩
  have hn8 : Below w8.heap.size w8 X8 := hX8 ▸ bnew w8 _
  have hc8 := hb8.trans (hn8.mono hb8.size)
  have HXP8 := Lib.hid (HXP7.out.to hc8)
  have HDP8 := Lib.hid (HDP7.out.to hc8)
  have HLS8 := Lib.hid (HLS7.out.to hc8)
  have HM8 := Lib.hid (HM7.out.to hc8)
  have HXA8 := Lib.hid (HXA7.out.to hc8)
  have HDA8 := Lib.hid (HDA7.out.to hc8)
  have HXB8 := Lib.hid (HXB7.out.to hc8)
  have HDB8 := Lib.hid (HDB7.out.to hc8)
  have HPC8 := Lib.hid (HPC7.out.to hc8)
  have HPD8 := Lib.hid (HPD7.out.to hc8)
  have HXX8 := Lib.hid (HXX7.out.to hc8)
  have HSX8 := Lib.hid (HSX7.out.to hc8)
  have HXY8 := Lib.hid (show Has X8 w8.heap.size (.cells #[.string s0, .slice qy m ky] 35) from hX8 ▸ Has.new w8 _)
  have HSY8 := Lib.hid ((strs_own ho8).to hn8)
  have HB8 := Lib.hid (HB7.out.trans (hc8.mono HB7.out.size))
  clear HXP7 HDP7 HLS7 HM7 HXA7 HDA7 HXB7 HDB7 HPC7 HPD7 HXX7 HSX7 HB7 hb8 hc8 hn8
  clear x0 x1 ho8
  have hm0 : Tryz.prog.follows .mixedOrders = true := by kernel_rfl
  have hxp0 : ∀ z : Later X8, z.v.cell? ⟨w.heap.size, 0, none⟩ = some (.slice p n cap) := fun z => z.c (HXP8.out.cell 0 rfl) HXP8.out.lt
  have hxp1 : ∀ z : Later X8, z.v.cell? ⟨w.heap.size, 1, none⟩ = some (.bool prep) := fun z => z.c (HXP8.out.cell 1 rfl) HXP8.out.lt
  have hxa0 : ∀ z : Later X8, z.v.cell? ⟨w1.heap.size, 0, none⟩ = some (.slice qa na ka) := fun z => z.c (HXA8.out.cell 0 rfl) HXA8.out.lt
  have hxa1 : ∀ z : Later X8, z.v.cell? ⟨w1.heap.size, 1, none⟩ = some (.bool ra) := fun z => z.c (HXA8.out.cell 1 rfl) HXA8.out.lt
  have hxb0 : ∀ z : Later X8, z.v.cell? ⟨w2.heap.size, 0, none⟩ = some (.slice qb na kb) := fun z => z.c (HXB8.out.cell 0 rfl) HXB8.out.lt
  have hxb1 : ∀ z : Later X8, z.v.cell? ⟨w2.heap.size, 1, none⟩ = some (.bool ra) := fun z => z.c (HXB8.out.cell 1 rfl) HXB8.out.lt
  have hxx0 : ∀ z : Later X8, z.v.cell? ⟨w7.heap.size, 0, none⟩ = some (.string s0) := fun z => z.c (HXX8.out.cell 0 rfl) HXX8.out.lt
  have hxx1 : ∀ z : Later X8, z.v.cell? ⟨w7.heap.size, 1, none⟩ = some (.slice qx m kx) := fun z => z.c (HXX8.out.cell 1 rfl) HXX8.out.lt
  have hxy0 : ∀ z : Later X8, z.v.cell? ⟨w8.heap.size, 0, none⟩ = some (.string s0) := fun z => z.c (HXY8.out.cell 0 rfl) HXY8.out.lt
  have hxy1 : ∀ z : Later X8, z.v.cell? ⟨w8.heap.size, 1, none⟩ = some (.slice qy m ky) := fun z => z.c (HXY8.out.cell 1 rfl) HXY8.out.lt
  have HL18 := Lib.hid (fun z : Later X8 => lives_is z.v (HM8.out.to z.h))
  have HL19 := Lib.hid (fun z : Later X8 => HSM.out qa qb ka kb z.v (HDA8.out.to z.h) (HDB8.out.to z.h))
  have HL20 := Lib.hid (fun z : Later X8 => HSA.out qc qd kc kd z.v (HPC8.out.to z.h) (HPD8.out.to z.h))
  have HL21 := Lib.hid (fun z : Later X8 => HC1.out _ z.v (HDP8.out.to z.h))
  have HL22 := Lib.hid (fun z : Later X8 => HC2.out _ z.v (HDP8.out.to z.h))
  have HL23 := Lib.hid (fun z : Later X8 => HSD.out _ _ z.v (HSX8.out.to z.h) (HSY8.out.to z.h))
  clear HXP8 HDP8 HLS8 HM8 HXA8 HDA8 HXB8 HDB8 HPC8 HPD8 HXX8 HSX8 HXY8 HSY8
  clear HSM HSA HC1 HC2 HSD HT1 HT2 HF1 HF2 HH12 HH13 HP10 HP11 HMA HMH
  go_wp2_with fail
  refine wp_region_quiet_later (by assumption) (by kernel_rfl) ?_
  repeat (go_big_quiet_step (fail))
  go_big_quiet_step ((go_at_call 18; exact Calls.later_of (HL18.out _)))
  repeat (go_big_quiet_step (fail))
  go_big_quiet_step ((go_at_call 19; exact Calls.later_of (HL19.out _)))
  repeat (go_big_quiet_step (fail))
  go_big_quiet_step ((go_at_call 20; exact Calls.later_of (HL20.out _)))
  repeat (go_big_quiet_step (fail))
  go_big_quiet_step ((go_at_call 21; exact Calls.later_of (HL21.out _)))
  repeat (go_big_quiet_step (fail))
  go_big_quiet_step ((go_at_call 22; exact Calls.later_of (HL22.out _)))
  repeat (go_big_quiet_step (fail))
  go_big_quiet_step ((go_at_call 23; exact Calls.later_of (HL23.out _)))
  repeat (go_big_quiet_step (fail))
  refine wpQuiet_nil ?_
  rintro wz ⟨⟨_, hz⟩, rfl⟩
  go_wp2
  go_ret
  exact ⟨rfl, HB8.out.trans (hz.mono HB8.out.size)⟩
end Go.Proofs.YtempmmkdppelaaaGreatDoor
