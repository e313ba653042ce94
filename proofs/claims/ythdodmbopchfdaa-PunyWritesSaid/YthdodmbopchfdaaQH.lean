import Derived.Test.YthdodmbopchfdaaQG
namespace Go.Proofs.Ythdodmbopchfdaa
open Go.RowKit P
theorem lastIdx_succ (u : ByteArray) (k : Nat) (h : k < u.size) : Lib.lastIdx u 45 (k + 1) = if (u[k].toNat : Int) = 45 then (k : Int) else Lib.lastIdx u 45 k := by
  have e : u.data[k]! = u[k] := by
    rw [getElem!_pos u.data k h]; rfl
  rw [Lib.lastIdx, e]
theorem lastIdx_bd (u : ByteArray) (k : Nat) : -1 ≤ Lib.lastIdx u 45 k ∧ Lib.lastIdx u 45 k < k := by
  rcases Lib.lastIdx_spec u 45 k with ⟨h, _⟩ | ⟨i, hi, h, _⟩ <;> rw [h] <;> omega
theorem valR_none {c : Nat} (h : valN c = none) : valR c = 36 := by unfold valR; rw [h]; rfl
theorem valR_some {c : Nat} {d : Int} (h : valN c = some d) : valR c = d := by unfold valR; rw [h]; rfl
set_option maxRecDepth 100000 in
set_option maxHeartbeats 4000000 in
theorem rdecode_long (u : ByteArray) (hu : 4096 < u.size) (hu2 : u.size ≤ maxLen) (w : World) : Calls Try.prog 12 #[.string u] w (decRes (decS u).1 (decS u).2 w) := by
  have H : decS u = ([], 4) := by unfold decS; rw [if_pos hu]
  unfold maxLen at hu2
  rw [H]
  go_enter Try.func12, Try.ntmps12
  go_wp2
  go_ret2
  exact decRes_err (Below.refl _ _)
set_option maxRecDepth 100000 in
set_option maxHeartbeats 16000000 in
theorem rdecode_go (u : ByteArray) (hu : u.size ≤ 4096) (L : List Int) (c : Int) (hL : decS u = (L, c)) (w : World) : Calls Try.prog 12 #[.string u] w (decRes L c w) := by
  obtain ⟨i0, hi, hz0, hz1, hz2⟩ := info_parts infoRune
  have HL := Lib.hid hL
  clear hL
  go_enter Try.func12, Try.ntmps12
  go_wp2_with fail
  go_loopw [4, 5] (fun x i wr => ∃ (k : Nat) (y : Int), k ≤ u.size ∧ i = .int .i64 k ∧ x = .int .i64 y ∧ -1 ≤ y ∧ y < k ∧ Hid (Lib.lastIdx u 45 k = y) ∧ Below w.heap.size w wr) (fun _ i _ => u.size - (intOf i).toNat)
  case atStart => exact ⟨0, -1, by omega, rfl, rfl, by omega, by omega, Lib.hid rfl, Below.refl _ _⟩
  case round =>
    obtain ⟨k, y, hk, rfl, rfl, hy0, hy1, HY, hbel⟩ := hrel
    by_cases hlt : k < u.size
    · have HS := Lib.hid (lastIdx_succ u k hlt)
      have i1 : (k : Int) < (u.size : Int) := by omega
      have hcl := u[k].toNat_lt
      by_cases hc : (u[k].toNat : Int) = 45
      · have HT : Hid (Lib.lastIdx u 45 (k + 1) = k) := Lib.hid (by rw [HS.out, if_pos hc])
        have hcb : ((u[k].toNat : Int) == 45) = true := by rw [beq_iff_eq]; exact hc
        clear HS HY hc
        go_wp2
        exact ⟨⟨k + 1, k, by omega, by go_num, rfl, by omega, by omega, HT, hbel⟩, by simp [intOf]; omega⟩
      · have HT : Hid (Lib.lastIdx u 45 (k + 1) = y) := Lib.hid (by rw [HS.out, if_neg hc, HY.out])
        have hcb : ((u[k].toNat : Int) == 45) = false := by rw [beq_eq_false_iff_ne]; exact hc
        clear HS HY hc
        go_wp2
        exact ⟨⟨k + 1, y, by omega, by go_num, rfl, by omega, by omega, HT, hbel⟩, by simp [intOf]; omega⟩
    · have hky : lastH u = y := by
        have := HY.out
        rw [show k = u.size by omega] at this
        exact this
      have HLy := Lib.hid hky
      have hyb : y < u.size := by omega
      have HPl : Hid (plainL u = u.data.toList.take y.toNat) := Lib.hid (by unfold plainL; rw [hky])
      have HNl : Hid (numsL u = u.data.toList.drop (y + 1).toNat) := Lib.hid (by unfold numsL; rw [hky])
      obtain ⟨w1, rfl⟩ : ∃ w1 : World, w1 = wr := ⟨_, rfl⟩
      have HB1 := Lib.hid hbel
      have hsz1 := hbel.size
      clear hky HY hbel
      go_wp2_with fail
      go_loopw [6, 7] (fun v i wr => ∃ (k : Nat) (pre : List Int), (k : Int) ≤ max y 0 ∧ i = .int .i64 k ∧ pre.length ≤ k ∧ Hid (toInts (u.data.toList.take k) = pre) ∧ Hid (Own wr w.heap.size v pre) ∧ Hid (∀ c ∈ u.data.toList.take k, c.toNat < 128) ∧ Below w.heap.size w wr) (fun _ i _ => u.size - (intOf i).toNat)
      case atStart => exact ⟨0, [], by omega, rfl, Nat.le_refl _, Lib.hid rfl, Lib.hid (World.ownsRow_nil _ _ _ _), Lib.hid (by intro c hc; simp at hc), HB1.out⟩
      case round =>
        obtain ⟨k2, pre, hk2, rfl, hpk, HPre, HO, HAll, hbel⟩ := hrel
        obtain ⟨w9, rfl⟩ : ∃ w9 : World, w9 = wr := ⟨_, rfl⟩
        have hsz9 := hbel.size
        obtain ⟨pv, cv, hv, _⟩ := HO.out.form
        subst hv
        by_cases hlt2 : (k2 : Int) < y
        · have hku : k2 < u.size := by omega
          have HT := Lib.hid (toInts_snoc u k2 hku)
          have hpc := u[k2].toNat_lt
          have i1 : (k2 : Int) < (u.size : Int) := by omega
          have HTk := Lib.hid (List.take_succ_eq_append_getElem (l := u.data.toList) (i := k2) (by simpa using hku))
          by_cases hc : u[k2].toNat < 128
          · have HC := Lib.hid hc
            have HT2 : Hid (toInts (u.data.toList.take (k2 + 1)) = pre ++ [(u[k2].toNat : Int)]) := Lib.hid (by rw [HT.out, HPre.out])
            have HA2 : Hid (∀ c ∈ u.data.toList.take (k2 + 1), c.toNat < 128) := Lib.hid (by
              intro c hc
              rw [HTk.out] at hc
              rcases List.mem_append.1 hc with h | h
              · exact HAll.out c h
              · rw [List.mem_singleton.1 h]; exact HC.out)
            have HB9 := Lib.hid hbel
            clear HT
            go_wp2_with (at_builtin; refine wpList_append_own _ rfl _ _ 22 rfl w.heap.size 21 i0 (.int .i32 0) 1 4 Try.underlying22 hi hz0 hz1 hz2 rfl (by decide) _ _ _ rfl (HO.out.alloc _) ⟨w9.heap.size, 0, none⟩ 1 1 [.int .i32 (u[k2].toNat : Int)] rfl rfl (by exact lit32 w9 (u[k2].toNat : Int)) (one32 _) (by unfold maxLen; omega) (by omega) (by first | omega | (simp; omega)) ?_; intro v3 w3 hown3 hgrow3 _; have HO3 : Hid (Own w3 w.heap.size v3 (pre ++ [(u[k2].toNat : Int)])) := Lib.hid (own_snoc hown3); have HB3 : Hid (Below w.heap.size w w3) := Lib.hid (bel_grown (v := .slice pv pre.length cv) (HB9.out.alloc (by first | omega | (simp; omega)) _) (HO.out.alloc _) hgrow3 (by first | omega | (simp; omega))); clear hown3 hgrow3)
            exact ⟨⟨k2 + 1, pre ++ [(u[k2].toNat : Int)], by omega, by go_num, by simp; omega, HT2, HO3, HA2, HB3.out⟩, by simp [intOf]; omega⟩
          · have HX : Hid (decS u = ([], 9)) := Lib.hid (by
              unfold decS
              rw [if_neg (by omega), if_pos ⟨u[k2], by rw [HPl.out]; exact (List.mem_take_iff_getElem.2 ⟨k2, by simp; omega, rfl⟩), by omega⟩])
            have HE : Hid (L = [] ∧ c = 9) := Lib.hid (by have := HL.out.symm.trans HX.out; simp only [Prod.mk.injEq] at this; exact this)
            obtain ⟨rfl, rfl⟩ := HE.out
            go_wp2
            go_ret2
            exact decRes_err hbel
        · have hk2y : k2 = y.toNat := by omega
          have HDec : Hid (dec u.size (u.data.toList.drop (y + 1).toNat) 128 0 72 pre = (L, c)) := Lib.hid (by
            rw [← HL.out]
            unfold decS
            rw [if_neg (by omega), if_neg (by
              rintro ⟨x, hx, hx2⟩
              rw [HPl.out, ← hk2y] at hx
              have := HAll.out x hx
              omega), HPl.out, ← hk2y, HPre.out, HNl.out]
            exact dec_cong _ _ _ _ _ _ _ _ (by rw [List.length_drop, Array.length_toList]; exact Nat.sub_le _ _) (Nat.le_refl _) rfl)
          obtain ⟨a0, ha0⟩ : ∃ a0 : Nat, y + 1 = (a0 : Int) := ⟨(y + 1).toNat, by omega⟩
          have HDec2 : Hid (dec u.size (u.data.toList.drop a0) 128 0 72 pre = (L, c)) := Lib.hid (by have := HDec.out; rwa [ha0, Int.toNat_natCast] at this)
          have hpl : pre.length ≤ a0 := by omega
          have ha0u : a0 ≤ u.size := by omega
          have ha0' := ha0
          clear HDec HPre HAll HL HPl HNl hk2y
          go_wp2_with fail
          have HO0 := HO
          clear HO
          go_loopw [6, 8, 9, 10, 11] (fun v x1 x2 x3 x4 wr => ∃ (f a : Nat) (l : List Int) (n i b : Int), x1 = .int .i64 n ∧ x2 = .int .i64 i ∧ x3 = .int .i64 b ∧ x4 = .int .i64 a ∧ Hid (dec f (u.data.toList.drop a) n i b l = (L, c)) ∧ Hid (Own wr w.heap.size v l) ∧ Below w.heap.size w wr ∧ a ≤ u.size ∧ u.size ≤ f + a ∧ 0 ≤ i ∧ i ≤ l.length ∧ 0 ≤ n ∧ n ≤ 1114111 ∧ 0 ≤ b ∧ b ≤ 10000000000 ∧ l.length ≤ a) (fun _ _ _ _ x4 _ => u.size - (intOf x4).toNat)
          case atStart => exact ⟨u.size, a0, pre, 128, 0, 72, rfl, rfl, rfl, rfl, HDec2, HO0, hbel, by omega, by omega, by omega, by omega, by omega, by omega, by omega, by omega, by omega⟩
          case round =>
            clear HDec2 HO0 hbel
            obtain ⟨f, a, l, n, i, b, rfl, rfl, rfl, rfl, HD, HO, hbel, ha, hf, hi0, hi1, hn0, hn1, hb0, hb1, hl⟩ := hrel
            obtain ⟨w5, rfl⟩ : ∃ w5 : World, w5 = wr := ⟨_, rfl⟩
            have hsz5 := hbel.size
            obtain ⟨pv5, cv5, hv5, _⟩ := HO.out.form
            subst hv5
            by_cases hlt3 : a < u.size
            · obtain ⟨f, rfl⟩ : ∃ k, f = k + 1 := ⟨f - 1, by omega⟩
              have HDr := Lib.hid (drop_cons8 u a hlt3)
              obtain ⟨res, hres⟩ : ∃ res, num (u.data.toList.drop a) 36 1 i b = res := ⟨_, rfl⟩
              have HRes := Lib.hid hres
              have HErr : Hid (∀ c', res = .err c' → L = [] ∧ c = c') := Lib.hid (fun c' e => by
                have h := HRes.out
                rw [HDr.out, e] at h
                have h2 : dec (f + 1) (u.data.toList.drop a) n i b l = ([], c') := by rw [HDr.out]; exact dec_err h
                have := HD.out.symm.trans h2
                simp only [Prod.mk.injEq] at this; exact this)
              clear hres
              go_wp2_with fail
              go_loopw [9, 11, 13, 14] (fun x1 x2 x3 x4 wr => ∃ (a' : Nat) (i' w' k' : Int), x1 = .int .i64 i' ∧ x2 = .int .i64 a' ∧ x3 = .int .i64 w' ∧ x4 = .int .i64 k' ∧ Hid (num (u.data.toList.drop a') k' w' i' b = res) ∧ a ≤ a' ∧ a' ≤ u.size ∧ k' = 36 * ((a' : Int) - a + 1) ∧ 1 ≤ w' ∧ w' ≤ 2147483647 ∧ 0 ≤ i' ∧ i' ≤ 2147483647 ∧ wr = w5) (fun _ x2 _ _ _ => u.size - (intOf x2).toNat)
              case atStart => exact ⟨a, i, 1, 36, rfl, rfl, rfl, rfl, HRes, by omega, ha, by omega, by omega, by omega, hi0, by omega, rfl⟩
              case round =>
                obtain ⟨a', i', w', k', rfl, rfl, rfl, rfl, HN, ha1, ha2, hk, hw1, hw2, hi2, hi3, rfl⟩ := hrel
                have hkb : 0 ≤ k' ∧ k' ≤ 147492 := by omega
                have HK := Lib.hid hk
                clear hk
                by_cases hlt4 : a' < u.size
                · have hd := drop_cons8 u a' hlt4
                  have hcl := u[a'].toNat_lt
                  have ig : decide ((u.size : Int) ≤ (a' : Int)) = false := by rw [decide_eq_false_iff_not]; omega
                  have i1 : (a' : Int) < (u.size : Int) := by omega
                  cases hv : valN u[a'].toNat with
                  | none =>
                    have HX : Hid (L = [] ∧ c = 9) := Lib.hid (HErr.out 9 (by rw [← HN.out, hd, num_bad hv]))
                    have HV := Lib.hid (valR_none hv)
                    obtain ⟨rfl, rfl⟩ := HX.out
                    clear hd hv
                    go_wp2_with (go_at_call 22; refine (rvalue_is u[a'].toNat 36 HV.out (by omega) _).mono ?_; rintro e w' ⟨rfl, rfl⟩)
                    go_ret2
                    exact decRes_err hbel
                  | some d =>
                    have hdb := valN_bd hv
                    have HVs := Lib.hid hv
                    have HV := Lib.hid (valR_some hv)
                    have HD2 := Lib.hid hd
                    have hmu := mul_bd hdb.1 hdb.2 (show 0 ≤ w' by omega) hw2
                    obtain ⟨t, ht⟩ : ∃ t, thr k' b = t := ⟨_, rfl⟩
                    have htb := thr_bd k' b
                    rw [ht] at htb
                    have HT := Lib.hid ht
                    have hd36 : (d == 36) = false := by rw [beq_eq_false_iff_ne]; omega
                    clear hd hv ht
                    by_cases ho : 2147483647 < i' + d * w'
                    · have HX : Hid (L = [] ∧ c = 10) := Lib.hid (HErr.out 10 (by rw [← HN.out, HD2.out, num_over HVs.out ho]))
                      obtain ⟨rfl, rfl⟩ := HX.out
                      go_wp2_with (go_at_call 22; refine (rvalue_is u[a'].toNat d HV.out (by omega) _).mono ?_; rintro e w' ⟨rfl, rfl⟩)
                      go_ret2
                      exact decRes_err hbel
                    · by_cases hdt : d < t
                      · have HX : Hid (res = .ok (i' + d * w') (u.data.toList.drop (a' + 1))) := Lib.hid (by rw [← HN.out, HD2.out, num_last HVs.out ho (by rw [HT.out]; exact hdt)])
                        have hib0 : i ≤ i' + d * w' := by
                          obtain ⟨vs, δ, _, g2, g3, g4, _⟩ := num_par _ _ _ _ _ _ _ (HRes.out.trans HX.out)
                          have := digs_par g2 (by have := g3 []; rwa [List.append_nil] at this)
                          omega
                        have hi4 : 0 ≤ i' + d * w' := by omega
                        have hi5 : i' + d * w' ≤ 2147483647 := by omega
                        have ha3 : a < a' + 1 := by omega
                        have ha4 : a' + 1 ≤ u.size := by omega
                        obtain ⟨a2, ha5⟩ : ∃ a2, a' + 1 = a2 := ⟨_, rfl⟩
                        rw [ha5] at ha3 ha4 HX
                        have HA2 := Lib.hid ha5
                        clear ha5
                        go_wp2_with (first | (go_at_call 22; refine (rvalue_is u[a'].toNat d HV.out (by omega) _).mono ?_; rintro e w' ⟨rfl, rfl⟩) | (go_at_call 23; refine (rthr_is k' b t HT.out (by omega) (by omega) hb0 (by omega) _).mono ?_; rintro e w' ⟨rfl, rfl⟩))
                        clear hmu ho HVs HV HD2 hdt ig hdb hd36 hi2 hi3
                        generalize i' + d * w' = i2 at *
                        have hL : (0 : Int) < (l.length : Int) + 1 := by omega
                        obtain ⟨q, hq⟩ : ∃ q, i2 / ((l.length : Int) + 1) = q := ⟨_, rfl⟩
                        have hq0 : 0 ≤ i2 / ((l.length : Int) + 1) := Int.ediv_nonneg hi4 (by omega)
                        have hq1 : i2 / ((l.length : Int) + 1) ≤ 2147483647 := Int.le_trans (Int.ediv_le_self _ hi4) hi5
                        have hm0 := Int.emod_nonneg i2 (show ((l.length : Int) + 1) ≠ 0 by omega)
                        have hm1 := Int.emod_lt_of_pos i2 hL
                        obtain ⟨m, hm⟩ : ∃ m : Nat, i2 % ((l.length : Int) + 1) = (m : Int) := ⟨(i2 % ((l.length : Int) + 1)).toNat, by omega⟩
                        rw [hm] at hm0 hm1
                        rw [hq] at hq0 hq1
                        have hml : m ≤ l.length := by omega
                        obtain ⟨fb, hfb⟩ : ∃ f, (i == 0) = f := ⟨_, rfl⟩
                        obtain ⟨b2, hb2⟩ : ∃ b2, bias (i2 - i) ((l.length : Int) + 1) fb = b2 := ⟨_, rfl⟩
                        have hbb := bias_bd (first := fb) (show 0 ≤ i2 - i by omega) (show 1 ≤ (l.length : Int) + 1 by omega)
                        rw [hb2] at hbb
                        have HB2 := Lib.hid hb2
                        have HQ := Lib.hid hq
                        have HM := Lib.hid hm
                        have HF := Lib.hid hfb
                        obtain ⟨n', hn'⟩ : ∃ n', n + q = n' := ⟨_, rfl⟩
                        have hn2 : 0 ≤ n' ∧ n' ≤ 2148597758 := by omega
                        have HNn := Lib.hid hn'
                        have HStep : Hid ((U.May n' → dec f (u.data.toList.drop a2) n' ((m : Int) + 1) b2 (ins l m n') = (L, c)) ∧ (¬ U.May n' → L = [] ∧ c = 9)) := Lib.hid (by
                          have h := HRes.out.trans HX.out
                          rw [HDr.out] at h
                          have h0 := HD.out
                          rw [HDr.out] at h0
                          constructor
                          · intro hmay
                            rw [dec_may h (by rw [HQ.out, HNn.out]; exact hmay), HQ.out, HM.out, HF.out, HB2.out, HNn.out, Int.toNat_natCast] at h0
                            exact h0
                          · intro hmay
                            rw [dec_not h (by rw [HQ.out, HNn.out]; exact hmay)] at h0
                            simp only [Prod.mk.injEq] at h0
                            exact ⟨h0.1.symm, h0.2.symm⟩)
                        clear hb2 hn'
                        rw [hfb]
                        refine (rbias_is (i2 - i) ((l.length : Int) + 1) b2 fb HB2.out (by omega) (by omega) (by omega) (by omega) _).mono ?_
                        rintro e w6 ⟨rfl, rfl⟩
                        clear hfb
                        have hn' : n + q = n' := HNn.out
                        have hi4' : 0 ≤ i2 := hi4
                        by_cases hbig : 1114111 < n'
                        · obtain ⟨rfl, rfl⟩ := HStep.out.2 (by unfold U.May; omega)
                          go_wp2
                          go_ret2
                          exact decRes_err hbel
                        · have hbg : decide (1114111 < n') = false := decide_eq_false hbig
                          by_cases hmay : U.May n'
                          · have HMay := Lib.hid hmay
                            have HNext := Lib.hid (HStep.out.1 hmay)
                            clear hmay HStep
                            have hlc : l.length ≤ cv5 := by
                              rcases own_cases HO.out with ⟨_, _, h3⟩ | ⟨_, _, _, h3⟩
                              · rw [h3]; simp
                              · exact h3
                            have HSD : Hid (RunesAt (wr.alloc (.cells #[] 21)) (.slice (if cv5 = m then pv5 else pv5.map (fun x => x.add m)) (l.length - m) (cv5 - m)) (l.drop m)) := Lib.hid (drop_runes ((own_at HO.out).below (bnew wr (.cells #[] 21))) hml hlc)
                            have HSDn : Hid (∀ n c, (Value.slice (if cv5 = m then pv5 else pv5.map (fun x => x.add m)) (l.length - m) (cv5 - m)) = .slice none n c → n = 0 ∧ c = 0) := Lib.hid (fun n c e3 => by
                              simp only [Value.slice.injEq] at e3
                              have hp : pv5 = none := by
                                have := e3.1
                                split at this
                                · exact this
                                · cases pv5 with
                                  | none => rfl
                                  | some x => cases this
                              have := own_nilv HO.out l.length cv5 (by rw [hp])
                              omega)
                            have hmlc : m ≤ cv5 := by omega
                            go_wp2_with (first
                              | (go_at_call 16; refine (rmay_yes n' HMay.out _).mono ?_; rintro e w6 ⟨rfl, rfl⟩)
                              | (refine wpList_append_runes (by rfl) (.tmp 120) (.tmp 123) (by rfl) w.heap.size (.slice (some ⟨wr.heap.size, 0, none⟩) 0 0) [] (by rfl) (own_empty wr w.heap.size hsz5) (.slice (if cv5 = m then pv5 else pv5.map (fun x => x.add m)) (l.length - m) (cv5 - m)) (l.drop m) (by rfl) HSD.out HSDn.out (by simp; omega) (by simp; omega) ?_; intro v7 w7 ho7 hg7 hat7; have HO7 : Hid (Own w7 w.heap.size (.slice pv5 l.length cv5) l) := Lib.hid ((HO.out.alloc (.cells #[] 21)).kept hg7 (block_lt HO.out (Nat.le_refl _))); have HV7 : Hid (Own w7 w.heap.size v7 (l.drop m)) := Lib.hid ho7; have HB7 : Hid (Below w.heap.size w w7) := Lib.hid ((hbel.alloc hsz5 (.cells #[] 21)).grown hg7 (by simp; omega) (fun k hk => by have e2 : some wr.heap.size = some k := hk; simp only [Option.some.injEq] at e2; omega)); have hsz7 := HB7.out.size; have HNe7 : Hid (v7.ownBlock = none ∨ v7.ownBlock ≠ (Value.slice pv5 m cv5).ownBlock) := Lib.hid (blocks_apart hat7 (own_take HO.out hml) (Nat.le_refl _) (by simp)); clear ho7 hg7 hat7; have HTk : Hid (Own (w7.alloc (.cells #[.int .i32 n'] 21)) w.heap.size (.slice pv5 m cv5) (l.take m)) := Lib.hid ((own_take HO7.out hml).alloc _); have HNw : Hid (RunesAt (w7.alloc (.cells #[.int .i32 n'] 21)) (.slice (some ⟨w7.heap.size, 0, none⟩) 1 1) [n']) := Lib.hid (runes_lit (l := [n']) (by have := Has.new w7 (.cells #[.int .i32 n'] 21); exact this) 1))
                              | (refine wpList_append_runes (by rfl) (.tmp 127) (.tmp 130) (by rfl) w.heap.size (.slice pv5 m cv5) (l.take m) (by rfl) HTk.out (.slice (some ⟨w7.heap.size, 0, none⟩) 1 1) [n'] (by rfl) HNw.out (fun _ _ e3 => by cases e3) (by simp; omega) (by simp; omega) ?_; intro v8 w8 ho8 hg8 hat8; have HO8 := Lib.hid ho8; have HV8 : Hid (Own w8 w.heap.size v7 (l.drop m)) := Lib.hid ((HV7.out.alloc (.cells #[.int .i32 n'] 21)).kept hg8 HNe7.out); have HB8 : Hid (Below w.heap.size w w8) := Lib.hid ((HB7.out.alloc hsz7 (.cells #[.int .i32 n'] 21)).grown hg8 (by simp; omega) (fun k hk => (HTk.out.lt k hk).1)); have hsz8 := HB8.out.size; clear ho8 hg8 hat8)
                              | (refine wpList_append_runes (by rfl) (.tmp 131) (.tmp 132) (by rfl) w.heap.size v8 (l.take m ++ [n']) (by rfl) HO8.out v7 (l.drop m) (by rfl) (own_at HV8.out) (own_nilv HV8.out) (by simp; omega) hsz8 ?_; intro v9 w10 ho9 hg9 _; have HO9 : Hid (Own w10 w.heap.size v9 (ins l m n')) := Lib.hid (by have := ho9; rw [List.append_assoc] at this; exact this); have HB9 : Hid (Below w.heap.size w w10) := Lib.hid (HB8.out.grown hg9 hsz8 (fun k hk => (HO8.out.lt k hk).1)); clear ho9 hg9))
                            have hil := ins_len (l := l) (p := m) (v := n')
                            exact ⟨⟨f, a2, ins l m n', n', (m : Int) + 1, b2, rfl, rfl, rfl, by rw [← HA2.out]; go_num, HNext, HO9, HB9.out, ha4, by omega, by omega, by omega, hn2.1, by omega, hbb.1, by omega, by omega⟩, by simp [intOf]; omega⟩
                          · have HMay := Lib.hid hmay
                            obtain ⟨rfl, rfl⟩ := HStep.out.2 hmay
                            clear hmay HStep
                            go_wp2_with (go_at_call 16; refine (rmay_no n' HMay.out _).mono ?_; rintro e w6 ⟨rfl, rfl⟩)
                            go_ret2
                            exact decRes_err hbel
                      · have hmw := mul_bd (show 0 ≤ w' by omega) hw2 (show 0 ≤ 36 - t by omega) (show 36 - t ≤ 35 by omega)
                        have hmw2 : 1 ≤ w' * (36 - t) := by
                          have := Int.mul_le_mul hw1 (show (1 : Int) ≤ 36 - t by omega) (by omega) (by omega)
                          omega
                        by_cases hww : 2147483647 < w' * (36 - t)
                        · have HX : Hid (L = [] ∧ c = 10) := Lib.hid (HErr.out 10 (by rw [← HN.out, HD2.out, num_wide HVs.out ho (by rw [HT.out]; exact hdt) (by rw [HT.out]; exact hww)]))
                          obtain ⟨rfl, rfl⟩ := HX.out
                          go_wp2_with (first | (go_at_call 22; refine (rvalue_is u[a'].toNat d HV.out (by omega) _).mono ?_; rintro e w' ⟨rfl, rfl⟩) | (go_at_call 23; refine (rthr_is k' b t HT.out (by omega) (by omega) hb0 (by omega) _).mono ?_; rintro e w' ⟨rfl, rfl⟩))
                          go_ret2
                          exact decRes_err hbel
                        · have HX : Hid (num (u.data.toList.drop (a' + 1)) (k' + 36) (w' * (36 - t)) (i' + d * w') b = res) := Lib.hid (by rw [← HN.out, HD2.out, num_next HVs.out ho (by rw [HT.out]; exact hdt) (by rw [HT.out]; exact hww), HT.out])
                          go_wp2_with (first | (go_at_call 22; refine (rvalue_is u[a'].toNat d HV.out (by omega) _).mono ?_; rintro e w' ⟨rfl, rfl⟩) | (go_at_call 23; refine (rthr_is k' b t HT.out (by omega) (by omega) hb0 (by omega) _).mono ?_; rintro e w' ⟨rfl, rfl⟩))
                          exact ⟨⟨a' + 1, i' + d * w', w' * (36 - t), k' + 36, rfl, by go_num, rfl, rfl, HX, by omega, by omega, by have := HK.out; omega, by omega, by omega, by omega, by omega, trivial⟩, by simp [intOf]; omega⟩
                · have ig : decide ((u.size : Int) ≤ (a' : Int)) = true := by rw [decide_eq_true_iff]; omega
                  have HX : Hid (L = [] ∧ c = 9) := Lib.hid (HErr.out 9 (by rw [← HN.out, drop_end8 u a' hlt4]; rfl))
                  obtain ⟨rfl, rfl⟩ := HX.out
                  go_wp2
                  go_ret2
                  exact decRes_err hbel
            · have HX : Hid (L = l ∧ c = 0) := Lib.hid (by
                have := HD.out
                rw [drop_end8 u a hlt3, dec_stop] at this
                simp only [Prod.mk.injEq] at this
                exact ⟨this.1.symm, this.2.symm⟩)
              obtain ⟨rfl, rfl⟩ := HX.out
              go_wp2
              go_ret2
              exact ⟨_, rfl, own_at HO.out, fun _ h => absurd rfl h, hbel⟩
end Go.Proofs.Ythdodmbopchfdaa
