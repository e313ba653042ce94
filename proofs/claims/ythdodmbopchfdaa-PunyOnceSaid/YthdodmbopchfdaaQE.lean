import Derived.Test.YthdodmbopchfdaaQD
namespace Go.Proofs.Ythdodmbopchfdaa
open Go.RowKit P
theorem cells_at (w : World) (g : Nat) (l : List Int) (cs : Array Value) (hg : w.heap[g]? = some (.cells cs 5 (0, 0))) (ht : cs.toList.take l.length = l.map (Value.int .u8)) : ∀ j u, (l.map (Value.int .u8))[j]? = some u → w.cell? ((⟨g, 0, none⟩ : Addr).add j) = some u := by
  intro j u hj
  rw [addr_add, cell_of_row _ _ j _ _ _ hg]
  have h1 := congrArg (fun x => x[j]?) ht
  simp only [List.getElem?_take, Array.getElem?_toList] at h1
  have hjl : j < l.length := by
    have := (List.getElem?_eq_some_iff.1 hj).1
    simpa using this
  rw [if_pos hjl] at h1
  rw [h1, hj]
theorem own_src {w : World} {B : Nat} {v : Value} {l : List Int} (h : OwnB w B v l) (hn : l ≠ []) : ∃ g cap, v = .slice (some ⟨g, 0, none⟩) l.length cap ∧ g < w.heap.size ∧ ∀ j u, (l.map (Value.int .u8))[j]? = some u → w.cell? ((⟨g, 0, none⟩ : Addr).add j) = some u := by
  rcases h.2 with ⟨rfl, h0⟩ | ⟨g, cap, cur, rfl, hB, hg, hnc, hmx, hsz, htk⟩
  · exact absurd (List.eq_nil_of_length_eq_zero h0) hn
  · refine ⟨g, cap, rfl, (Array.getElem?_eq_some_iff.1 hg).1, cells_at w g l _ hg ?_⟩
    simpa using htk
theorem many8 (l : List Int) : ∀ u ∈ l.map (Value.int .u8), u.oneCell' = true := by
  intro u hu
  obtain ⟨x, _, rfl⟩ := List.mem_map.1 hu
  rfl
theorem ownb_app {B : Nat} {v' : Value} {l c : List Int} {w : World} (h : w.ownsRow B 5 1 v' (l.length + c.length) (l.map (Value.int .u8) ++ c.map (Value.int .u8))) : OwnB w B v' (l ++ c) := by
  unfold OwnB
  rw [List.length_append, List.map_append]
  exact h
theorem rmay_take {l : List Int} {k : Nat} (hk : k < l.length) (h : ∀ x ∈ l.take k, U.May x) (hx : U.May l[k]) : ∀ x ∈ l.take (k + 1), U.May x := by
  intro x hm
  rw [take_snoc l k hk] at hm
  rcases List.mem_append.1 hm with hm | hm
  · exact h x hm
  · simp only [List.mem_singleton] at hm; subst hm; exact hx
set_option maxRecDepth 100000 in
set_option maxHeartbeats 4000000 in
theorem rencode_many (l : List Int) (va : Value) (hl : 4096 < l.length) (hl2 : l.length ≤ 9223372036854775807) (w : World) (hA : RunesAt w va l) : Calls Try.prog 8 #[va] w (encRes l w) := by
  have H := Lib.hid (show encS l = ([], 3) by unfold encS; rw [if_pos hl])
  obtain ⟨pa, ca, rfl, _⟩ := hA
  go_enter Try.func8, Try.ntmps8
  go_wp2
  go_ret2
  exact encRes_of H.out (Below.refl _ _)
set_option maxRecDepth 100000 in
set_option maxHeartbeats 8000000 in
theorem rencode_go (l : List Int) (va : Value) (hl : l.length ≤ 4096) (w : World) (hA : RunesAt w va l) (hwf0 : ∀ x ∈ l, -2147483648 ≤ x ∧ x ≤ 2147483647) : Calls Try.prog 8 #[va] w (encRes l w) := by
  obtain ⟨i0, hi, hz0, hz1, hz2⟩ := info_parts infoByte0
  obtain ⟨p, hp⟩ : ∃ p, (lt 128 l).length = p := ⟨_, rfl⟩
  obtain ⟨base, hbase⟩ : ∃ b, baseOf l = b := ⟨_, rfl⟩
  obtain ⟨R, hR⟩ : ∃ R, enc p l l.length 128 ⟨[], 0, 72, p⟩ = R := ⟨_, rfl⟩
  have hst := hd_start l
  have hpl : p ≤ l.length := by have := lt_len_le 128 l; omega
  rw [hp] at hst
  have HS : Hid (l.map U.rep = l → encS l = encM base R) := Lib.hid (fun hm => by
    unfold encS; rw [if_neg (by omega), if_neg (by simpa using hm), hp, hR, hbase])
  have HN : Hid (¬ l.map U.rep = l → encS l = ([], 2)) := Lib.hid (fun hm => by unfold encS; rw [if_neg (by omega), if_pos hm])
  have HA := Lib.hid hA
  have HST := Lib.hid hst
  have HR := Lib.hid hR
  have HP := Lib.hid hp
  have HBs := Lib.hid hbase
  have HW0 := Lib.hid hwf0
  obtain ⟨pa, ca, rfl, hC⟩ := hA
  have HC := Lib.hid hC
  clear hst hR hp hbase hC hwf0
  go_enter Try.func8, Try.ntmps8
  go_wp2_with fail
  go_loopw [4, 22] (fun v i wr => ∃ (k : Nat) (pre : List Int), k ≤ l.length ∧ i = .int .i64 k ∧ pre.length ≤ k ∧ Hid (lt 128 (l.take k) = pre) ∧ Hid (∀ x ∈ l.take k, U.May x) ∧ Hid (OwnB wr w.heap.size v pre) ∧ Below w.heap.size w wr) (fun _ i _ => l.length - (intOf i).toNat)
  case atStart =>
    exact ⟨0, [], by omega, rfl, by simp, Lib.hid rfl, Lib.hid (by intro x hx; simp at hx), Lib.hid (World.ownsRow_nil _ _ _ _), Below.refl _ _⟩
  case round =>
    obtain ⟨k, pre, hk, rfl, hpk, HPre, HMay, HOw, hbel⟩ := hrel
    obtain ⟨w9, rfl⟩ : ∃ w9 : World, w9 = wr := ⟨_, rfl⟩
    have hsz9 := hbel.size
    obtain ⟨pv, cv, rfl⟩ := HOw.out.form
    by_cases hlt : k < l.length
    · obtain ⟨g', o', rfl, hg', hx⟩ := HC.out k l[k] (get_some hlt)
      have hx2 := (hbel.cell (p := ⟨g', o' + k, none⟩) hg').trans hx
      have HT := Lib.hid (lt_take l k hlt 128)
      have HM2 := Lib.hid (fun h => rmay_take hlt HMay.out h)
      have HNo := Lib.hid (show ¬ U.May l[k] → ¬ l.map U.rep = l from fun h e => h ((rep_all l).1 e _ (List.getElem_mem hlt)))
      have hw := HW0.out l[k] (List.getElem_mem hlt)
      generalize l[k] = r at *
      have HB9 := Lib.hid hbel
      clear hx
      by_cases hm : U.May r
      · have HMr := Lib.hid hm
        have hm0 : 0 ≤ r := by unfold U.May at hm; omega
        clear hm
        by_cases hr : r < 128
        · have HT2 : Hid (lt 128 (l.take (k + 1)) = pre ++ [r]) := Lib.hid (by rw [HT.out, if_pos hr, HPre.out])
          clear HT
          go_wp2_with (first | (go_at_call 16; refine (rmay_yes r HMr.out _).mono ?_; rintro e w' ⟨rfl, rfl⟩) | (at_builtin; refine wpList_append_own _ rfl _ _ 35 rfl w.heap.size 5 i0 (.int .u8 0) 1 1 Try.underlying35 hi hz0 hz1 hz2 rfl (by decide) _ _ _ rfl (HOw.out.alloc _) ⟨w9.heap.size, 0, none⟩ 1 1 [.int .u8 r] rfl rfl (by exact lit8 w9 r) (one8 r) (by unfold maxLen; omega) (by omega) (by first | omega | (simp; omega)) ?_; intro v3 w3 hown3 hgrow3 _; have HO3 : Hid (OwnB w3 w.heap.size v3 (pre ++ [r])) := Lib.hid (ownb_snoc hown3); have HB3 : Hid (Below w.heap.size w w3) := Lib.hid (belb_grown (v := .slice pv pre.length cv) (HB9.out.alloc (by first | omega | (simp; omega)) _) (HOw.out.alloc _) hgrow3 (by first | omega | (simp; omega))); clear hown3 hgrow3))
          exact ⟨⟨k + 1, pre ++ [r], by omega, by go_num, by simp; omega, HT2, Lib.hid (HM2.out HMr.out), HO3, HB3.out⟩, by simp [intOf]; omega⟩
        · have HT2 : Hid (lt 128 (l.take (k + 1)) = pre) := Lib.hid (by rw [HT.out, if_neg hr, List.append_nil, HPre.out])
          clear HT
          go_wp2_with (go_at_call 16; refine (rmay_yes r HMr.out _).mono ?_; rintro e w' ⟨rfl, rfl⟩)
          exact ⟨⟨k + 1, pre, by omega, by go_num, by omega, HT2, Lib.hid (HM2.out HMr.out), HOw, hbel⟩, by simp [intOf]; omega⟩
      · have HMr := Lib.hid hm
        clear hm
        go_wp2_with (go_at_call 16; refine (rmay_no r HMr.out _).mono ?_; rintro e w' ⟨rfl, rfl⟩)
        go_ret2
        exact encRes_of (HN.out (HNo.out HMr.out)) hbel
    · have HAll : Hid (∀ x ∈ l, U.May x) := Lib.hid (by have := HMay.out; rwa [List.take_of_length_le (by omega)] at this)
      have HF : Hid (lt 128 l = pre) := Lib.hid (by have := HPre.out; rwa [List.take_of_length_le (by omega)] at this)
      have HS2 := Lib.hid (HS.out ((rep_all l).2 HAll.out))
      have HW : Hid (∀ x ∈ l, 0 ≤ x ∧ x ≤ 1114111) := Lib.hid (may_bd ((rep_all l).2 HAll.out))
      have hpp : pre.length = p := by rw [← HP.out, HF.out]
      have hbb := base_bd HW.out
      rw [HBs.out] at hbb
      have HBB := Lib.hid hbb.1
      have hbl := hbb.2
      have HB9 := Lib.hid hbel
      clear hbb HS HN HW0 HMay HPre
      subst hpp
      have HBase : Hid (base = pre ++ if pre = [] then [] else [45]) := Lib.hid (by rw [← HBs.out]; unfold baseOf; rw [HF.out])
      by_cases hp0 : 0 < pre.length
      rotate_left
      · have HB2 : Hid (base = pre) := Lib.hid (by rw [HBase.out, if_pos (List.eq_nil_of_length_eq_zero (by omega)), List.append_nil])
        go_wp2_with fail
        have HO3 : Hid (OwnB w9 w.heap.size (.slice pv pre.length cv) base) := Lib.hid (by rw [HB2.out]; exact HOw.out)
        clear HB2
        obtain ⟨w3, rfl⟩ : ∃ w3 : World, w3 = w9 := ⟨_, rfl⟩
        have HB3 := HB9
        clear hp0 HBase
        have hsz3 := HB3.out.size
        go_loopw [4, 7, 9, 10, 11] (fun v x y z t wr => ∃ (f : Nat) (n : Int) (s : St), x = .int .i64 s.h ∧ y = .int .i64 n ∧ z = .int .i64 s.d ∧ t = .int .i64 s.b ∧ Hid (enc pre.length l f n s = R) ∧ Hid (Hd (lt 128 l) l n s) ∧ Hid (Bd base s) ∧ Hid (OwnB wr w.heap.size v (base ++ s.o.map digZ)) ∧ Below w.heap.size w wr ∧ (l.length : Int) ≤ f + s.h ∧ 0 ≤ n ∧ n ≤ 1114112) (fun _ x _ _ _ _ => l.length - (intOf x).toNat)
        case atStart =>
          exact ⟨l.length, 128, ⟨[], 0, 72, pre.length⟩, rfl, rfl, rfl, rfl, HR, HST, Lib.hid ⟨Int.le_refl 0, by dsimp only; omega, by dsimp only; omega, by dsimp only; omega, by dsimp only; omega, by dsimp only; simp only [List.map_nil, List.append_nil]; omega⟩, Lib.hid (by simpa using HO3.out), HB3.out, by dsimp only; omega, by omega, by omega⟩
        case round =>
          clear HO3 HB3 HR HST HOw HB9 hbel
          obtain ⟨f, n, s, rfl, rfl, rfl, rfl, HE, HHd, HBd, HOk, hbel, hf, hn0, hn1⟩ := hrel
          obtain ⟨w5, rfl⟩ : ∃ w5 : World, w5 = wr := ⟨_, rfl⟩
          have hsz5 := hbel.size
          obtain ⟨hoa, hhl⟩ := hd_all HHd.out
          have hlt0 := lt_len_le n l
          have HOA := Lib.hid hoa
          have hhb : 0 ≤ s.h ∧ s.h ≤ l.length := by omega
          have HHL := Lib.hid hhl
          obtain ⟨e0, e1, e2, e3, e4, e5⟩ := HBd.out
          obtain ⟨pv5, cv5, hv5⟩ := HOk.out.form
          subst hv5
          clear hoa hhl
          by_cases hlt5 : s.h < l.length
          · obtain ⟨f, rfl⟩ : ∃ k, f = k + 1 := ⟨f - 1, by omega⟩
            have hle := least_left (n := n) (fun r hr => (HW.out r hr).2) (by have := HHL.out; omega)
            obtain ⟨m, hm⟩ : ∃ m, P.least n l = m := ⟨_, rfl⟩
            rw [hm] at hle
            have hm1 := (HW.out m hle.2.1).2
            have HMid := Lib.hid (hd_mid HHd.out hle.1 hle.2.2)
            have hnm := hle.1
            have HMin := Lib.hid hle.2.1
            have HMm := Lib.hid hm
            clear hle hm
            go_wp2_with fail
            go_loopw [12, 51] (fun x i wr => ∃ (k : Nat) (y : Int), k ≤ l.length ∧ i = .int .i64 k ∧ x = .int .i64 y ∧ Hid (P.least n (l.take k) = y) ∧ wr = w5) (fun _ i _ => l.length - (intOf i).toNat)
            case atStart => exact ⟨0, 2147483647, by omega, rfl, rfl, Lib.hid rfl, rfl⟩
            case round =>
              obtain ⟨k3, y, hk3, rfl, rfl, HY, rfl⟩ := hrel
              by_cases hlt3 : k3 < l.length
              · obtain ⟨g', o', rfl, hg', hx⟩ := HC.out k3 l[k3] (get_some hlt3)
                have hx2 := (hbel.cell (p := ⟨g', o' + k3, none⟩) hg').trans hx
                have hw := HW.out l[k3] (List.getElem_mem hlt3)
                have HT := Lib.hid (least_take l k3 hlt3 n)
                rw [← least_eq, ← least_eq] at HT
                generalize l[k3] = r at *
                clear hx
                by_cases hnr : n ≤ r
                · have HT2 : Hid (P.least n (l.take (k3 + 1)) = min y r) := Lib.hid (by rw [HT.out, if_pos hnr, HY.out])
                  clear HT HY
                  by_cases hyr : r < y
                  · have HT3 : Hid (P.least n (l.take (k3 + 1)) = r) := Lib.hid (by rw [HT2.out]; omega)
                    clear HT2
                    go_wp2
                    exact ⟨⟨k3 + 1, r, by omega, by go_num, by go_num, HT3, trivial⟩, by simp [intOf]; omega⟩
                  · have hyr2 : decide (r < y) = false := decide_eq_false hyr
                    have HT3 : Hid (P.least n (l.take (k3 + 1)) = y) := Lib.hid (by rw [HT2.out]; omega)
                    clear HT2
                    go_wp2
                    exact ⟨⟨k3 + 1, y, by omega, by go_num, rfl, HT3, trivial⟩, by simp [intOf]; omega⟩
                · have hnr2 : decide (n ≤ r) = false := decide_eq_false hnr
                  have HT2 : Hid (P.least n (l.take (k3 + 1)) = y) := Lib.hid (by rw [HT.out, if_neg hnr, HY.out])
                  clear HT HY
                  go_wp2
                  exact ⟨⟨k3 + 1, y, by omega, by go_num, rfl, HT2, trivial⟩, by simp [intOf]; omega⟩
              · have hym : m = y := by rw [← HY.out, ← HMm.out, List.take_of_length_le (by omega)]
                subst hym
                clear HY
                have hX0 : 0 ≤ (m - n) * (s.h + 1) := Int.mul_nonneg (by omega) (by omega)
                have hX1 : (m - n) * (s.h + 1) ≤ 1114111 * 4097 := Int.le_trans (Int.mul_le_mul_of_nonneg_right (show m - n ≤ 1114111 by omega) (by omega)) (by omega)
                by_cases hdX : s.d + (m - n) * (s.h + 1) ≤ 2147483647
                · have HS0 : Hid (Bd base ⟨s.o, s.d + (m - n) * (s.h + 1), s.b, s.h⟩) := Lib.hid ⟨by dsimp only; omega, hdX, e2, e3, e4, e5⟩
                  obtain ⟨w6, rfl⟩ : ∃ w6 : World, w6 = wr := ⟨_, rfl⟩
                  go_wp2_with fail
                  go_loopw [4, 7, 10, 11, 81] (fun v x z t i wr => ∃ (k : Nat) (sk : St), k ≤ l.length ∧ i = .int .i64 k ∧ x = .int .i64 sk.h ∧ z = .int .i64 sk.d ∧ t = .int .i64 sk.b ∧ Hid (scan pre.length m ⟨s.o, s.d + (m - n) * (s.h + 1), s.b, s.h⟩ (l.take k) = some sk) ∧ Hid (Bd base sk) ∧ Hid (Mid (lt 128 l) m (l.take k) (l.drop k) sk) ∧ Hid (OwnB wr w.heap.size v (base ++ sk.o.map digZ)) ∧ Below w.heap.size w wr) (fun _ _ _ _ i _ => l.length - (intOf i).toNat)
                  case atStart => exact ⟨0, ⟨s.o, s.d + (m - n) * (s.h + 1), s.b, s.h⟩, by omega, rfl, rfl, rfl, rfl, Lib.hid rfl, HS0, HMid, HOk, hbel⟩
                  case round =>
                    clear HS0 HMid HOk hbel
                    obtain ⟨k4, sk, hk4, rfl, rfl, rfl, rfl, HSc, HBk, HMk, HOs, hbel⟩ := hrel
                    obtain ⟨w7, rfl⟩ : ∃ w7 : World, w7 = wr := ⟨_, rfl⟩
                    have hsz7 := hbel.size
                    have HB7 := Lib.hid hbel
                    obtain ⟨f0, f1, f2, f3, f4, f5⟩ := HBk.out
                    have hmk := mid_h HMk.out
                    rw [List.length_take_of_le hk4, List.length_drop] at hmk
                    obtain ⟨pv7, cv7, hv7⟩ := HOs.out.form
                    subst hv7
                    by_cases hlt4 : k4 < l.length
                    · obtain ⟨g', o', rfl, hg', hx⟩ := HC.out k4 l[k4] (get_some hlt4)
                      have hx2 := (hbel.cell (p := ⟨g', o' + k4, none⟩) hg').trans hx
                      have hw := HW.out l[k4] (List.getElem_mem hlt4)
                      have HT := Lib.hid (scan_snoc pre.length m l k4 hlt4 _ sk HSc.out)
                      have HNx : Hid (∀ s', one pre.length m sk l[k4] = some s' → Mid (lt 128 l) m (l.take (k4 + 1)) (l.drop (k4 + 1)) s') := Lib.hid (fun s' h => mid_next hlt4 HMk.out (by rw [HP.out]; exact h))
                      generalize l[k4] = r at *
                      clear hx
                      rcases Int.lt_trichotomy r m with hrm | hrm | hrm
                      · have hne : (r == m) = false := by rw [beq_eq_false_iff_ne]; omega
                        by_cases hd : sk.d + 1 ≤ 2147483647
                        · have H1 := Lib.hid (one_lt (p := pre.length) (s := sk) hrm hd)
                          go_wp2
                          exact ⟨⟨k4 + 1, ⟨sk.o, sk.d + 1, sk.b, sk.h⟩, by omega, by go_num, rfl, rfl, rfl, Lib.hid (HT.out.trans H1.out), Lib.hid ⟨by dsimp only; omega, hd, f2, f3, f4, f5⟩, Lib.hid (HNx.out _ H1.out), HOs, hbel⟩, by simp [intOf]; omega⟩
                        · have H1 := Lib.hid (one_over (p := pre.length) (s := sk) hrm hd)
                          have HX := Lib.hid (enc_no hlt5 (round_scan (p := pre.length) HMm.out rfl hdX (scan_none _ _ l (k4 + 1) _ (HT.out.trans H1.out))) (f := f))
                          have HZ : Hid (encS l = ([], 10)) := Lib.hid (by rw [HS2.out, ← HE.out, HX.out]; rfl)
                          go_wp2
                          go_ret2
                          exact encRes_of HZ.out hbel
                      · have hne : (r == m) = true := by rw [beq_iff_eq]; omega
                        have hnlt : decide (r < m) = false := by rw [decide_eq_false_iff_not]; omega
                        obtain ⟨D, hD⟩ : ∃ D, digs sk.d sk.b = D := ⟨_, rfl⟩
                        obtain ⟨fi, hfi⟩ : ∃ fi, (sk.h == (pre.length : Int)) = fi := ⟨_, rfl⟩
                        obtain ⟨b2, hb2⟩ : ∃ b2, bias sk.d (sk.h + 1) (sk.h == (pre.length : Int)) = b2 := ⟨_, rfl⟩
                        have H1 := Lib.hid (one_eq (p := pre.length) (s := sk) hrm)
                        have HBn := Lib.hid (bd_put HBk.out (by omega) hD hb2)
                        rw [hD, hb2] at H1
                        have hDl := digs_len (b := sk.b) f0
                        rw [hD] at hDl
                        have hDn : D.map digZ ≠ [] := by
                          obtain ⟨x, t, e⟩ := digs_ne sk.d sk.b
                          rw [hD] at e; rw [e]; simp
                        have HDn := Lib.hid hDn
                        rw [hfi] at hb2
                        have HD := Lib.hid hD
                        have HB2 := Lib.hid hb2
                        have HFi := Lib.hid hfi
                        obtain ⟨T, hT⟩ : ∃ T, base ++ sk.o.map digZ = T := ⟨_, rfl⟩
                        have HT2 := Lib.hid hT
                        rw [hT] at f5 HOs
                        rw [HT2.out]
                        have hDm : (D.map digZ).length = D.length := List.length_map _
                        have HDm := Lib.hid hDm
                        clear hD hb2 hDn hfi hT
                        go_wp2_with fail
                        refine (rdigits_is sk.b sk.d D HD.out f0 f1 f2 f3 _).mono ?_
                        rintro e w8 ⟨vd, rfl, hod, hb8⟩
                        obtain ⟨gd, cd, hvd, hgd, hcd⟩ := own_src hod HDn.out
                        subst hvd
                        rw [hDm]
                        have HOm := Lib.hid (HOs.out.to hb8)
                        have HB8 := Lib.hid (HB7.out.trans (hb8.mono hsz7))
                        have hsz8 := HB8.out.size
                        have HCd := Lib.hid hcd
                        clear hod hcd hb8 hDm
                        have hfi := HFi.out
                        go_wp2_with (first | (go_at_call 18; refine (rbias_is sk.d (sk.h + 1) b2 fi HB2.out f0 (by omega) (by omega) (by omega) _).mono ?_; rintro e w' ⟨rfl, rfl⟩) | (at_builtin; refine wpList_append_own _ rfl _ _ 35 rfl w.heap.size 5 i0 (.int .u8 0) 1 1 Try.underlying35 hi hz0 hz1 hz2 rfl (by decide) _ _ _ rfl HOm.out ⟨gd, 0, none⟩ D.length cd ((D.map digZ).map (Value.int .u8)) rfl (by simp) HCd.out (many8 _) (by unfold maxLen; omega) (by omega) (by omega) ?_; intro v3 w10 hown3 hgrow3 _; have HO3 : Hid (OwnB w10 w.heap.size v3 (T ++ D.map digZ)) := Lib.hid (ownb_app (by rw [HDm.out]; exact hown3)); have HB3 : Hid (Below w.heap.size w w10) := Lib.hid (belb_grown (v := .slice pv7 T.length cv7) HB8.out HOm.out hgrow3 hsz8); clear hown3 hgrow3))
                        have HO4 : Hid (OwnB w10 w.heap.size v3 (base ++ (sk.o ++ D).map digZ)) := Lib.hid (by rw [List.map_append, ← List.append_assoc, HT2.out]; exact HO3.out)
                        exact ⟨⟨k4 + 1, ⟨sk.o ++ D, 0, b2, sk.h + 1⟩, by omega, by go_num, rfl, rfl, rfl, Lib.hid (HT.out.trans H1.out), HBn, Lib.hid (HNx.out _ H1.out), HO4, HB3.out⟩, by simp [intOf]; omega⟩
                      · have hne : (r == m) = false := by rw [beq_eq_false_iff_ne]; omega
                        have hnlt : decide (r < m) = false := by rw [decide_eq_false_iff_not]; omega
                        have H1 := Lib.hid (one_gt (p := pre.length) (s := sk) hrm)
                        go_wp2
                        exact ⟨⟨k4 + 1, sk, by omega, by go_num, rfl, rfl, rfl, Lib.hid (HT.out.trans H1.out), HBk, Lib.hid (HNx.out _ H1.out), HOs, hbel⟩, by simp [intOf]; omega⟩
                    · have HF4 : Hid (scan pre.length m ⟨s.o, s.d + (m - n) * (s.h + 1), s.b, s.h⟩ l = some sk) := Lib.hid (by have := HSc.out; rwa [List.take_of_length_le (by omega)] at this)
                      have hsm := scan_small (by dsimp only; omega) HMin.out HF4.out
                      have HRd := Lib.hid (round_yes (p := pre.length) HMm.out rfl hdX HF4.out (by omega))
                      have hrh := round_hd (fun r hr => (HW.out r hr).2) HHd.out hlt5 (by rw [HP.out]; exact HRd.out)
                      rw [HMm.out] at hrh
                      obtain ⟨r1, r2, r3, r4, r5⟩ := hrh
                      dsimp only at r2
                      obtain ⟨_, hhl3⟩ := hd_all r1
                      have hlt6 := lt_len_le (m + 1) l
                      have HHd3 := Lib.hid r1
                      have HE3 : Hid (enc pre.length l f (m + 1) ⟨sk.o, sk.d + 1, sk.b, sk.h⟩ = R) := Lib.hid (by rw [← HE.out, enc_go hlt5 HRd.out, HMm.out])
                      have hh3 : 0 ≤ sk.h ∧ sk.h ≤ l.length := by dsimp only at hhl3; omega
                      clear r1 hhl3
                      go_wp2
                      exact ⟨⟨f, m + 1, ⟨sk.o, sk.d + 1, sk.b, sk.h⟩, rfl, rfl, rfl, rfl, HE3, HHd3, Lib.hid ⟨by dsimp only; omega, by dsimp only; omega, f2, f3, f4, f5⟩, HOs, hbel, by dsimp only; omega, by omega, by omega⟩, by simp [intOf]; omega⟩
                · have HX := Lib.hid (enc_no hlt5 (round_big (p := pre.length) (by rw [HMm.out]; exact hdX)) (f := f))
                  have HZ : Hid (encS l = ([], 10)) := Lib.hid (by rw [HS2.out, ← HE.out, HX.out]; rfl)
                  go_wp2
                  go_ret2
                  exact encRes_of HZ.out hbel
          · have HX : Hid (encS l = (base ++ s.o.map digZ, 0)) := Lib.hid (by rw [HS2.out, ← HE.out, enc_stop hlt5]; rfl)
            have kb := own_back (P := Try.prog) HOk.out (fun x hx => by
              rcases List.mem_append.1 hx with h | h
              · exact HBB.out x h
              · exact digZ_all HOA.out x h) Try.underlying35 Try.underlying5 Try.underlying9
            generalize base ++ s.o.map digZ = T at *
            generalize hTl : T.length = L at *
            have HTl := Lib.hid hTl
            clear hTl
            go_wp2
            go_ret2
            exact encRes_of HX.out hbel
      · have HB2 : Hid (base = pre ++ [45]) := Lib.hid (by rw [HBase.out, if_neg (fun e => by rw [e] at hp0; simp at hp0)])
        go_wp2_with (at_builtin; refine wpList_append_own _ rfl _ _ 35 rfl w.heap.size 5 i0 (.int .u8 0) 1 1 Try.underlying35 hi hz0 hz1 hz2 rfl (by decide) _ _ _ rfl (HOw.out.alloc _) ⟨w9.heap.size, 0, none⟩ 1 1 [.int .u8 45] rfl rfl (by exact lit8 w9 45) (one8 45) (by unfold maxLen; omega) (by omega) (by first | omega | (simp; omega)) ?_; intro v3 w3 hown3 hgrow3 _; have HO3 : Hid (OwnB w3 w.heap.size v3 (pre ++ [45])) := Lib.hid (ownb_snoc hown3); have HB3 : Hid (Below w.heap.size w w3) := Lib.hid (belb_grown (v := .slice pv pre.length cv) (HB9.out.alloc (by first | omega | (simp; omega)) _) (HOw.out.alloc _) hgrow3 (by first | omega | (simp; omega))); clear hown3 hgrow3)
        rw [← HB2.out] at HO3
        clear hp0 HBase HB2
        have hsz3 := HB3.out.size
        go_loopw [4, 7, 9, 10, 11] (fun v x y z t wr => ∃ (f : Nat) (n : Int) (s : St), x = .int .i64 s.h ∧ y = .int .i64 n ∧ z = .int .i64 s.d ∧ t = .int .i64 s.b ∧ Hid (enc pre.length l f n s = R) ∧ Hid (Hd (lt 128 l) l n s) ∧ Hid (Bd base s) ∧ Hid (OwnB wr w.heap.size v (base ++ s.o.map digZ)) ∧ Below w.heap.size w wr ∧ (l.length : Int) ≤ f + s.h ∧ 0 ≤ n ∧ n ≤ 1114112) (fun _ x _ _ _ _ => l.length - (intOf x).toNat)
        case atStart =>
          exact ⟨l.length, 128, ⟨[], 0, 72, pre.length⟩, rfl, rfl, rfl, rfl, HR, HST, Lib.hid ⟨Int.le_refl 0, by dsimp only; omega, by dsimp only; omega, by dsimp only; omega, by dsimp only; omega, by dsimp only; simp only [List.map_nil, List.append_nil]; omega⟩, Lib.hid (by simpa using HO3.out), HB3.out, by dsimp only; omega, by omega, by omega⟩
        case round =>
          clear HO3 HB3 HR HST HOw HB9 hbel
          obtain ⟨f, n, s, rfl, rfl, rfl, rfl, HE, HHd, HBd, HOk, hbel, hf, hn0, hn1⟩ := hrel
          obtain ⟨w5, rfl⟩ : ∃ w5 : World, w5 = wr := ⟨_, rfl⟩
          have hsz5 := hbel.size
          obtain ⟨hoa, hhl⟩ := hd_all HHd.out
          have hlt0 := lt_len_le n l
          have HOA := Lib.hid hoa
          have hhb : 0 ≤ s.h ∧ s.h ≤ l.length := by omega
          have HHL := Lib.hid hhl
          obtain ⟨e0, e1, e2, e3, e4, e5⟩ := HBd.out
          obtain ⟨pv5, cv5, hv5⟩ := HOk.out.form
          subst hv5
          clear hoa hhl
          by_cases hlt5 : s.h < l.length
          · obtain ⟨f, rfl⟩ : ∃ k, f = k + 1 := ⟨f - 1, by omega⟩
            have hle := least_left (n := n) (fun r hr => (HW.out r hr).2) (by have := HHL.out; omega)
            obtain ⟨m, hm⟩ : ∃ m, P.least n l = m := ⟨_, rfl⟩
            rw [hm] at hle
            have hm1 := (HW.out m hle.2.1).2
            have HMid := Lib.hid (hd_mid HHd.out hle.1 hle.2.2)
            have hnm := hle.1
            have HMin := Lib.hid hle.2.1
            have HMm := Lib.hid hm
            clear hle hm
            go_wp2_with fail
            go_loopw [12, 51] (fun x i wr => ∃ (k : Nat) (y : Int), k ≤ l.length ∧ i = .int .i64 k ∧ x = .int .i64 y ∧ Hid (P.least n (l.take k) = y) ∧ wr = w5) (fun _ i _ => l.length - (intOf i).toNat)
            case atStart => exact ⟨0, 2147483647, by omega, rfl, rfl, Lib.hid rfl, rfl⟩
            case round =>
              obtain ⟨k3, y, hk3, rfl, rfl, HY, rfl⟩ := hrel
              by_cases hlt3 : k3 < l.length
              · obtain ⟨g', o', rfl, hg', hx⟩ := HC.out k3 l[k3] (get_some hlt3)
                have hx2 := (hbel.cell (p := ⟨g', o' + k3, none⟩) hg').trans hx
                have hw := HW.out l[k3] (List.getElem_mem hlt3)
                have HT := Lib.hid (least_take l k3 hlt3 n)
                rw [← least_eq, ← least_eq] at HT
                generalize l[k3] = r at *
                clear hx
                by_cases hnr : n ≤ r
                · have HT2 : Hid (P.least n (l.take (k3 + 1)) = min y r) := Lib.hid (by rw [HT.out, if_pos hnr, HY.out])
                  clear HT HY
                  by_cases hyr : r < y
                  · have HT3 : Hid (P.least n (l.take (k3 + 1)) = r) := Lib.hid (by rw [HT2.out]; omega)
                    clear HT2
                    go_wp2
                    exact ⟨⟨k3 + 1, r, by omega, by go_num, by go_num, HT3, trivial⟩, by simp [intOf]; omega⟩
                  · have hyr2 : decide (r < y) = false := decide_eq_false hyr
                    have HT3 : Hid (P.least n (l.take (k3 + 1)) = y) := Lib.hid (by rw [HT2.out]; omega)
                    clear HT2
                    go_wp2
                    exact ⟨⟨k3 + 1, y, by omega, by go_num, rfl, HT3, trivial⟩, by simp [intOf]; omega⟩
                · have hnr2 : decide (n ≤ r) = false := decide_eq_false hnr
                  have HT2 : Hid (P.least n (l.take (k3 + 1)) = y) := Lib.hid (by rw [HT.out, if_neg hnr, HY.out])
                  clear HT HY
                  go_wp2
                  exact ⟨⟨k3 + 1, y, by omega, by go_num, rfl, HT2, trivial⟩, by simp [intOf]; omega⟩
              · have hym : m = y := by rw [← HY.out, ← HMm.out, List.take_of_length_le (by omega)]
                subst hym
                clear HY
                have hX0 : 0 ≤ (m - n) * (s.h + 1) := Int.mul_nonneg (by omega) (by omega)
                have hX1 : (m - n) * (s.h + 1) ≤ 1114111 * 4097 := Int.le_trans (Int.mul_le_mul_of_nonneg_right (show m - n ≤ 1114111 by omega) (by omega)) (by omega)
                by_cases hdX : s.d + (m - n) * (s.h + 1) ≤ 2147483647
                · have HS0 : Hid (Bd base ⟨s.o, s.d + (m - n) * (s.h + 1), s.b, s.h⟩) := Lib.hid ⟨by dsimp only; omega, hdX, e2, e3, e4, e5⟩
                  obtain ⟨w6, rfl⟩ : ∃ w6 : World, w6 = wr := ⟨_, rfl⟩
                  go_wp2_with fail
                  go_loopw [4, 7, 10, 11, 81] (fun v x z t i wr => ∃ (k : Nat) (sk : St), k ≤ l.length ∧ i = .int .i64 k ∧ x = .int .i64 sk.h ∧ z = .int .i64 sk.d ∧ t = .int .i64 sk.b ∧ Hid (scan pre.length m ⟨s.o, s.d + (m - n) * (s.h + 1), s.b, s.h⟩ (l.take k) = some sk) ∧ Hid (Bd base sk) ∧ Hid (Mid (lt 128 l) m (l.take k) (l.drop k) sk) ∧ Hid (OwnB wr w.heap.size v (base ++ sk.o.map digZ)) ∧ Below w.heap.size w wr) (fun _ _ _ _ i _ => l.length - (intOf i).toNat)
                  case atStart => exact ⟨0, ⟨s.o, s.d + (m - n) * (s.h + 1), s.b, s.h⟩, by omega, rfl, rfl, rfl, rfl, Lib.hid rfl, HS0, HMid, HOk, hbel⟩
                  case round =>
                    clear HS0 HMid HOk hbel
                    obtain ⟨k4, sk, hk4, rfl, rfl, rfl, rfl, HSc, HBk, HMk, HOs, hbel⟩ := hrel
                    obtain ⟨w7, rfl⟩ : ∃ w7 : World, w7 = wr := ⟨_, rfl⟩
                    have hsz7 := hbel.size
                    have HB7 := Lib.hid hbel
                    obtain ⟨f0, f1, f2, f3, f4, f5⟩ := HBk.out
                    have hmk := mid_h HMk.out
                    rw [List.length_take_of_le hk4, List.length_drop] at hmk
                    obtain ⟨pv7, cv7, hv7⟩ := HOs.out.form
                    subst hv7
                    by_cases hlt4 : k4 < l.length
                    · obtain ⟨g', o', rfl, hg', hx⟩ := HC.out k4 l[k4] (get_some hlt4)
                      have hx2 := (hbel.cell (p := ⟨g', o' + k4, none⟩) hg').trans hx
                      have hw := HW.out l[k4] (List.getElem_mem hlt4)
                      have HT := Lib.hid (scan_snoc pre.length m l k4 hlt4 _ sk HSc.out)
                      have HNx : Hid (∀ s', one pre.length m sk l[k4] = some s' → Mid (lt 128 l) m (l.take (k4 + 1)) (l.drop (k4 + 1)) s') := Lib.hid (fun s' h => mid_next hlt4 HMk.out (by rw [HP.out]; exact h))
                      generalize l[k4] = r at *
                      clear hx
                      rcases Int.lt_trichotomy r m with hrm | hrm | hrm
                      · have hne : (r == m) = false := by rw [beq_eq_false_iff_ne]; omega
                        by_cases hd : sk.d + 1 ≤ 2147483647
                        · have H1 := Lib.hid (one_lt (p := pre.length) (s := sk) hrm hd)
                          go_wp2
                          exact ⟨⟨k4 + 1, ⟨sk.o, sk.d + 1, sk.b, sk.h⟩, by omega, by go_num, rfl, rfl, rfl, Lib.hid (HT.out.trans H1.out), Lib.hid ⟨by dsimp only; omega, hd, f2, f3, f4, f5⟩, Lib.hid (HNx.out _ H1.out), HOs, hbel⟩, by simp [intOf]; omega⟩
                        · have H1 := Lib.hid (one_over (p := pre.length) (s := sk) hrm hd)
                          have HX := Lib.hid (enc_no hlt5 (round_scan (p := pre.length) HMm.out rfl hdX (scan_none _ _ l (k4 + 1) _ (HT.out.trans H1.out))) (f := f))
                          have HZ : Hid (encS l = ([], 10)) := Lib.hid (by rw [HS2.out, ← HE.out, HX.out]; rfl)
                          go_wp2
                          go_ret2
                          exact encRes_of HZ.out hbel
                      · have hne : (r == m) = true := by rw [beq_iff_eq]; omega
                        have hnlt : decide (r < m) = false := by rw [decide_eq_false_iff_not]; omega
                        obtain ⟨D, hD⟩ : ∃ D, digs sk.d sk.b = D := ⟨_, rfl⟩
                        obtain ⟨fi, hfi⟩ : ∃ fi, (sk.h == (pre.length : Int)) = fi := ⟨_, rfl⟩
                        obtain ⟨b2, hb2⟩ : ∃ b2, bias sk.d (sk.h + 1) (sk.h == (pre.length : Int)) = b2 := ⟨_, rfl⟩
                        have H1 := Lib.hid (one_eq (p := pre.length) (s := sk) hrm)
                        have HBn := Lib.hid (bd_put HBk.out (by omega) hD hb2)
                        rw [hD, hb2] at H1
                        have hDl := digs_len (b := sk.b) f0
                        rw [hD] at hDl
                        have hDn : D.map digZ ≠ [] := by
                          obtain ⟨x, t, e⟩ := digs_ne sk.d sk.b
                          rw [hD] at e; rw [e]; simp
                        have HDn := Lib.hid hDn
                        rw [hfi] at hb2
                        have HD := Lib.hid hD
                        have HB2 := Lib.hid hb2
                        have HFi := Lib.hid hfi
                        obtain ⟨T, hT⟩ : ∃ T, base ++ sk.o.map digZ = T := ⟨_, rfl⟩
                        have HT2 := Lib.hid hT
                        rw [hT] at f5 HOs
                        rw [HT2.out]
                        have hDm : (D.map digZ).length = D.length := List.length_map _
                        have HDm := Lib.hid hDm
                        clear hD hb2 hDn hfi hT
                        go_wp2_with fail
                        refine (rdigits_is sk.b sk.d D HD.out f0 f1 f2 f3 _).mono ?_
                        rintro e w8 ⟨vd, rfl, hod, hb8⟩
                        obtain ⟨gd, cd, hvd, hgd, hcd⟩ := own_src hod HDn.out
                        subst hvd
                        rw [hDm]
                        have HOm := Lib.hid (HOs.out.to hb8)
                        have HB8 := Lib.hid (HB7.out.trans (hb8.mono hsz7))
                        have hsz8 := HB8.out.size
                        have HCd := Lib.hid hcd
                        clear hod hcd hb8 hDm
                        have hfi := HFi.out
                        go_wp2_with (first | (go_at_call 18; refine (rbias_is sk.d (sk.h + 1) b2 fi HB2.out f0 (by omega) (by omega) (by omega) _).mono ?_; rintro e w' ⟨rfl, rfl⟩) | (at_builtin; refine wpList_append_own _ rfl _ _ 35 rfl w.heap.size 5 i0 (.int .u8 0) 1 1 Try.underlying35 hi hz0 hz1 hz2 rfl (by decide) _ _ _ rfl HOm.out ⟨gd, 0, none⟩ D.length cd ((D.map digZ).map (Value.int .u8)) rfl (by simp) HCd.out (many8 _) (by unfold maxLen; omega) (by omega) (by omega) ?_; intro v3 w10 hown3 hgrow3 _; have HO3 : Hid (OwnB w10 w.heap.size v3 (T ++ D.map digZ)) := Lib.hid (ownb_app (by rw [HDm.out]; exact hown3)); have HB3 : Hid (Below w.heap.size w w10) := Lib.hid (belb_grown (v := .slice pv7 T.length cv7) HB8.out HOm.out hgrow3 hsz8); clear hown3 hgrow3))
                        have HO4 : Hid (OwnB w10 w.heap.size v3 (base ++ (sk.o ++ D).map digZ)) := Lib.hid (by rw [List.map_append, ← List.append_assoc, HT2.out]; exact HO3.out)
                        exact ⟨⟨k4 + 1, ⟨sk.o ++ D, 0, b2, sk.h + 1⟩, by omega, by go_num, rfl, rfl, rfl, Lib.hid (HT.out.trans H1.out), HBn, Lib.hid (HNx.out _ H1.out), HO4, HB3.out⟩, by simp [intOf]; omega⟩
                      · have hne : (r == m) = false := by rw [beq_eq_false_iff_ne]; omega
                        have hnlt : decide (r < m) = false := by rw [decide_eq_false_iff_not]; omega
                        have H1 := Lib.hid (one_gt (p := pre.length) (s := sk) hrm)
                        go_wp2
                        exact ⟨⟨k4 + 1, sk, by omega, by go_num, rfl, rfl, rfl, Lib.hid (HT.out.trans H1.out), HBk, Lib.hid (HNx.out _ H1.out), HOs, hbel⟩, by simp [intOf]; omega⟩
                    · have HF4 : Hid (scan pre.length m ⟨s.o, s.d + (m - n) * (s.h + 1), s.b, s.h⟩ l = some sk) := Lib.hid (by have := HSc.out; rwa [List.take_of_length_le (by omega)] at this)
                      have hsm := scan_small (by dsimp only; omega) HMin.out HF4.out
                      have HRd := Lib.hid (round_yes (p := pre.length) HMm.out rfl hdX HF4.out (by omega))
                      have hrh := round_hd (fun r hr => (HW.out r hr).2) HHd.out hlt5 (by rw [HP.out]; exact HRd.out)
                      rw [HMm.out] at hrh
                      obtain ⟨r1, r2, r3, r4, r5⟩ := hrh
                      dsimp only at r2
                      obtain ⟨_, hhl3⟩ := hd_all r1
                      have hlt6 := lt_len_le (m + 1) l
                      have HHd3 := Lib.hid r1
                      have HE3 : Hid (enc pre.length l f (m + 1) ⟨sk.o, sk.d + 1, sk.b, sk.h⟩ = R) := Lib.hid (by rw [← HE.out, enc_go hlt5 HRd.out, HMm.out])
                      have hh3 : 0 ≤ sk.h ∧ sk.h ≤ l.length := by dsimp only at hhl3; omega
                      clear r1 hhl3
                      go_wp2
                      exact ⟨⟨f, m + 1, ⟨sk.o, sk.d + 1, sk.b, sk.h⟩, rfl, rfl, rfl, rfl, HE3, HHd3, Lib.hid ⟨by dsimp only; omega, by dsimp only; omega, f2, f3, f4, f5⟩, HOs, hbel, by dsimp only; omega, by omega, by omega⟩, by simp [intOf]; omega⟩
                · have HX := Lib.hid (enc_no hlt5 (round_big (p := pre.length) (by rw [HMm.out]; exact hdX)) (f := f))
                  have HZ : Hid (encS l = ([], 10)) := Lib.hid (by rw [HS2.out, ← HE.out, HX.out]; rfl)
                  go_wp2
                  go_ret2
                  exact encRes_of HZ.out hbel
          · have HX : Hid (encS l = (base ++ s.o.map digZ, 0)) := Lib.hid (by rw [HS2.out, ← HE.out, enc_stop hlt5]; rfl)
            have kb := own_back (P := Try.prog) HOk.out (fun x hx => by
              rcases List.mem_append.1 hx with h | h
              · exact HBB.out x h
              · exact digZ_all HOA.out x h) Try.underlying35 Try.underlying5 Try.underlying9
            generalize base ++ s.o.map digZ = T at *
            generalize hTl : T.length = L at *
            have HTl := Lib.hid hTl
            clear hTl
            go_wp2
            go_ret2
            exact encRes_of HX.out hbel
end Go.Proofs.Ythdodmbopchfdaa
