import Derived.Test.YthdodmbopchfdaaPP
namespace Go.Proofs.Ythdodmbopchfdaa
open Go.RowKit P
/-- the writer as it stands at s -/
def Wst (B g : Nat) (base : List Int) (n p : Int) (s : St) (w : World) : Prop := Wr B g (base ++ s.o.map digZ) n s.d s.b s.h p w
/-- what the writer's numbers are bounded by -/
def Bd (base : List Int) (s : St) : Prop := 0 ≤ s.d ∧ s.d ≤ 2147483647 ∧ 0 ≤ s.b ∧ s.b ≤ 10000000000 ∧ 0 ≤ s.h ∧ ((base ++ s.o.map digZ).length : Int) ≤ 8192 + 2147483648 * s.h
theorem mid_h {bas : List Int} {m : Int} {pre suf : List Int} {s : St} (h : Mid bas m pre suf s) : 0 ≤ s.h ∧ s.h ≤ pre.length + suf.length ∧ 0 ≤ s.d := by
  obtain ⟨ds, nd, id, hR, hn, he, hh, hd⟩ := h
  have h1 : (le m pre).length ≤ pre.length := List.length_filter_le _ _
  have h2 := lt_len_le m suf
  rw [List.length_append] at hh
  omega
theorem mid_next {bas l : List Int} {m : Int} {k : Nat} (hk : k < l.length) {s s' : St} (h : Mid bas m (l.take k) (l.drop k) s) (ho : one bas.length m s l[k] = some s') : Mid bas m (l.take (k + 1)) (l.drop (k + 1)) s' := by
  rw [List.drop_eq_getElem_cons hk] at h
  have := mid_one h ho
  rwa [← take_snoc l k hk] at this
theorem digs_len {d b : Int} (h0 : 0 ≤ d) : ((digs d b).length : Int) ≤ d + 1 := by
  have := digF_len d.toNat d 36 b
  unfold digs
  omega
theorem bd_put {base : List Int} {s : St} {D : List Int} {b2 p : Int} (h : Bd base s) (hh : s.h ≤ 4096) (hD : digs s.d s.b = D) (hb : bias s.d (s.h + 1) (s.h == p) = b2) : Bd base ⟨s.o ++ D, 0, b2, s.h + 1⟩ := by
  obtain ⟨h1, h2, h3, h4, h5, h6⟩ := h
  have hd := digs_len (b := s.b) h1
  have hb3 := bias_bd (first := s.h == p) h1 (show 1 ≤ s.h + 1 by omega)
  rw [hD] at hd
  rw [hb] at hb3
  refine ⟨Int.le_refl 0, by show (0 : Int) ≤ _; omega, hb3.1, by show b2 ≤ _; omega, by show 0 ≤ s.h + 1; omega, ?_⟩
  show ((base ++ (s.o ++ D).map digZ).length : Int) ≤ 8192 + 2147483648 * (s.h + 1)
  rw [List.length_append, List.length_map] at h6 ⊢
  rw [List.length_append]
  omega
/-- what comes of a round -/
def RoundRes (B g : Nat) (base : List Int) (p : Int) (l : List Int) (n : Int) (r : Option St) (w0 : World) (e : Ending) (w' : World) : Prop :=
  match r with
  | some s' => e = .returned (.bool true) ∧ Wst B g base (P.least n l + 1) p s' w' ∧ Bd base s' ∧ Below B w0 w'
  | none => e = .returned (.bool false) ∧ Below B w0 w'
theorem roundRes_none {B g : Nat} {base : List Int} {p : Int} {l : List Int} {n : Int} {r : Option St} {w0 w' : World} (hr : r = none) (hb : Below B w0 w') : RoundRes B g base p l n r w0 (.returned (.bool false)) w' := by
  subst hr; exact ⟨rfl, hb⟩
theorem roundRes_some {B g : Nat} {base : List Int} {p : Int} {l : List Int} {n : Int} {r : Option St} {s' : St} {w0 w' : World} (hr : r = some s') (h1 : Wst B g base (P.least n l + 1) p s' w') (h2 : Bd base s') (hb : Below B w0 w') : RoundRes B g base p l n r w0 (.returned (.bool true)) w' := by
  subst hr; exact ⟨rfl, h1, h2, hb⟩
theorem round_big {p n : Int} {l : List Int} {s : St} (h : ¬ s.d + (P.least n l - n) * (s.h + 1) ≤ 2147483647) : round p n l s = none := by rw [round, if_neg h]
theorem round_scan {p n : Int} {l : List Int} {s : St} {X m : Int} (hm : P.least n l = m) (hX : (m - n) * (s.h + 1) = X) (h : s.d + X ≤ 2147483647) (hs : scan p m ⟨s.o, s.d + X, s.b, s.h⟩ l = none) : round p n l s = none := by
  subst hm hX
  rw [round, if_pos h, hs]
theorem round_yes {p n : Int} {l : List Int} {s s1 : St} {X m : Int} (hm : P.least n l = m) (hX : (m - n) * (s.h + 1) = X) (h : s.d + X ≤ 2147483647) (hs : scan p m ⟨s.o, s.d + X, s.b, s.h⟩ l = some s1) (h2 : s1.d + 1 ≤ 2147483647) : round p n l s = some ⟨s1.o, s1.d + 1, s1.b, s1.h⟩ := by
  subst hm hX
  rw [round, if_pos h, hs]
  dsimp only
  rw [if_pos h2]
theorem round_end {p n : Int} {l : List Int} {s s1 : St} {X m : Int} (hm : P.least n l = m) (hX : (m - n) * (s.h + 1) = X) (h : s.d + X ≤ 2147483647) (hs : scan p m ⟨s.o, s.d + X, s.b, s.h⟩ l = some s1) (h2 : ¬ s1.d + 1 ≤ 2147483647) : round p n l s = none := by
  subst hm hX
  rw [round, if_pos h, hs]
  dsimp only
  rw [if_neg h2]
theorem one_lt {p m r : Int} {s : St} (h : r < m) (h2 : s.d + 1 ≤ 2147483647) : one p m s r = some ⟨s.o, s.d + 1, s.b, s.h⟩ := by rw [one, if_pos h, if_pos h2]
theorem one_over {p m r : Int} {s : St} (h : r < m) (h2 : ¬ s.d + 1 ≤ 2147483647) : one p m s r = none := by rw [one, if_pos h, if_neg h2]
theorem one_eq {p m r : Int} {s : St} (h : r = m) : one p m s r = some ⟨s.o ++ digs s.d s.b, 0, bias s.d (s.h + 1) (s.h == p), s.h + 1⟩ := by rw [one, if_neg (by omega), if_pos h]
theorem one_gt {p m r : Int} {s : St} (h : m < r) : one p m s r = some s := by rw [one, if_neg (by omega), if_neg (by omega)]
set_option maxRecDepth 100000 in
set_option maxHeartbeats 4000000 in
theorem round_is (g : Nat) (base bas l : List Int) (n m : Int) (s : St) (va : Value) (hm : P.least n l = m) (hl : l.length ≤ 4096) (hwf : ∀ x ∈ l, 0 ≤ x ∧ x ≤ 1114111) (hn0 : 0 ≤ n) (hnm : n ≤ m) (hm1 : m ≤ 1114111) (w0 w : World) (hb0 : Below w0.heap.size w0 w) (hA : RunesAt w0 va l) (hbd : Bd base s) (hM : Mid bas m [] l ⟨s.o, s.d + (m - n) * (s.h + 1), s.b, s.h⟩) (hW : Wst w0.heap.size g base n bas.length s w) :
    Calls Try.prog 15 #[.pointer (some ⟨g, 0, none⟩), va] w fun e w' => RoundRes w0.heap.size g base bas.length l n (round bas.length n l s) w0 e w' := by
  have hmh := mid_h hM
  obtain ⟨X, hX⟩ : ∃ X, (m - n) * (s.h + 1) = X := ⟨_, rfl⟩
  obtain ⟨hd0, hd1, hbb0, hbb1, hh0, hlen⟩ := hbd
  have hX0 : 0 ≤ X := by rw [← hX]; exact Int.mul_nonneg (by omega) (by omega)
  have hX1 : X ≤ 1114111 * 4097 := by
    rw [← hX]
    refine Int.le_trans (Int.mul_le_mul_of_nonneg_right (show m - n ≤ 1114111 by omega) (by omega)) ?_
    dsimp only at hmh
    simp only [List.length_nil] at hmh
    omega
  rw [hX] at hM
  obtain ⟨o, ho⟩ : ∃ o, decide (s.d + X ≤ 2147483647) = o := ⟨_, rfl⟩
  have HO := Lib.hid ho
  have HX := Lib.hid hX
  have HMm := Lib.hid hm
  have HM := Lib.hid hM
  have HW := Lib.hid hwf
  have HA := Lib.hid hA
  have HB0 := Lib.hid hb0
  have HWs := Lib.hid hW
  have hsz := hb0.size
  have hA1 := hA.below hb0
  obtain ⟨pa, ca, rfl, hC⟩ := id hA
  have HC := Lib.hid hC
  have HA1 := Lib.hid hA1
  have K1 := Lib.hid (show IntKind.i64.wrap (m - n) = m - n from IntWalk.i64_in _ (by omega))
  have K2 := Lib.hid (show IntKind.i64.wrap (s.h + 1) = s.h + 1 from IntWalk.i64_in _ (by dsimp only at hmh; simp only [List.length_nil] at hmh; omega))
  have K3 := Lib.hid (show IntKind.i64.wrap ((m - n) * (s.h + 1)) = X by rw [hX]; exact IntWalk.i64_in _ (by omega))
  obtain ⟨v, hG⟩ : ∃ v, Has w g (.cells (WC v n s.d s.b s.h bas.length) 37) := by obtain ⟨_, v, hG, _⟩ := hW; exact ⟨v, hG⟩
  have c1 : w.cell? ⟨g, 1, none⟩ = some (.int .i64 n) := hG.cell 1 rfl
  have c4 : w.cell? ⟨g, 4, none⟩ = some (.int .i64 s.h) := hG.cell 4 rfl
  dsimp only at hmh
  simp only [List.length_nil] at hmh
  clear ho hX hm hM hwf hA hb0 hW hA1 hC hG
  go_enter Try.func15, Try.ntmps15
  go_wp2_with fail
  refine (least_is w0.heap.size g _ l n s.d s.b s.h bas.length m HMm.out _ hl (fun x hx => by have := HW.out x hx; omega) w HWs.out HA1.out).mono ?_
  rintro e w' ⟨rfl, rfl⟩
  go_wp2_with fail
  have k1 := K1.out
  have k2 := K2.out
  have k3 := K3.out
  refine wp_region_still_tail 13 (by kernel_rfl) (by kernel_rfl) ?_
  simp only [List.take_succ_cons, List.take_zero, List.drop_succ_cons, List.drop_zero]
  repeat still_step
  refine wpStill_nil ?_
  clear k1 k2 k3 c1 c4
  change wpList _ _ _ _ _ w.drew
  have HW1 : Hid (Wst w0.heap.size g base n bas.length s w.drew) := HWs
  go_wp2_with fail
  have hbx : Below w0.heap.size w0 w.drew := HB0.out.drew
  refine (raise_is w0.heap.size g _ n s.d s.b s.h bas.length X o HO.out hd0 (by omega) hX0 (by omega) _ HW1.out).mono ?_
  rintro e w1 ⟨rfl, hW2, hb2⟩
  have hbel := hbx.trans hb2
  clear hbx hb2
  by_cases hdX : s.d + X ≤ 2147483647
  · obtain rfl : o = true := by rw [← HO.out]; simpa using hdX
    have HS0 : Hid (Bd base ⟨s.o, s.d + X, s.b, s.h⟩) := Lib.hid ⟨by dsimp only; omega, hdX, hbb0, hbb1, hh0, hlen⟩
    obtain ⟨hBg, v1, hG1, hO1⟩ := hW2
    have c1 : w1.cell? ⟨g, 1, none⟩ = some (.int .i64 n) := hG1.cell 1 rfl
    have fz1 := hG1.free 1
    have hgl := hG1.lt
    have HG2 := Lib.hid (hG1.set 1 (.int .i64 m))
    have HO2 := Lib.hid (own_set hO1 hG1 (by decide) 1 (.int .i64 m))
    have HB2 := Lib.hid (hbel.setCell (p := ⟨g, 1, none⟩) hBg (.int .i64 m))
    clear hG1 hO1 hbel
    go_wp2_with fail
    clear c1 fz1
    have hbel2 := HB2.out
    have HW3 : Hid (Wst w0.heap.size g base m bas.length ⟨s.o, s.d + X, s.b, s.h⟩ (w1.setCell ⟨g, 1, none⟩ (.int .i64 m))) := Lib.hid ⟨hBg, v1, HG2.out, HO2.out⟩
    clear HG2 HO2 HB2
    generalize w1.setCell ⟨g, 1, none⟩ (.int .i64 m) = w2 at *
    go_loopw [32] (fun i wr => ∃ (k : Nat) (sk : St), k ≤ l.length ∧ i = .int .i64 k ∧ Hid (scan bas.length m ⟨s.o, s.d + X, s.b, s.h⟩ (l.take k) = some sk) ∧ Hid (Bd base sk) ∧ Hid (Mid bas m (l.take k) (l.drop k) sk) ∧ Hid (Wst w0.heap.size g base m bas.length sk wr) ∧ Below w0.heap.size w0 wr) (fun i _ => l.length - (intOf i).toNat)
    case atStart => exact ⟨0, _, by omega, rfl, Lib.hid rfl, HS0, HM, HW3, hbel2⟩
    case round =>
      clear HS0 HW3 hbel2 HW1 HWs HB0
      obtain ⟨k, sk, hk, rfl, HSc, HBd, HMk, HWk, hbel⟩ := hrel
      obtain ⟨w9, rfl⟩ : ∃ w9 : World, w9 = wr := ⟨_, rfl⟩
      have hsz9 := hbel.size
      obtain ⟨e0, e1, e2, e3, e4, e5⟩ := HBd.out
      have hmk := mid_h HMk.out
      rw [List.length_take_of_le hk, List.length_drop] at hmk
      by_cases hlt : k < l.length
      · obtain ⟨g', o', rfl, hg', hx⟩ := HC.out k l[k] (get_some hlt)
        have hx2 := (hbel.cell (p := ⟨g', o' + k, none⟩) hg').trans hx
        have hw := HW.out l[k] (List.getElem_mem hlt)
        have HT := Lib.hid (scan_snoc bas.length m l k hlt _ sk HSc.out)
        have HN := Lib.hid (fun s' => mid_next (s' := s') hlt HMk.out)
        have c1 : w9.cell? ⟨g, 1, none⟩ = some (.int .i64 m) := by obtain ⟨_, v, hG, _⟩ := HWk.out; exact hG.cell 1 rfl
        generalize l[k] = r at *
        clear hx
        rcases Int.lt_trichotomy r m with hrm | hrm | hrm
        · have hne : (r == m) = false := by rw [beq_eq_false_iff_ne]; omega
          obtain ⟨oo, hoo⟩ : ∃ oo, decide (sk.d + 1 ≤ 2147483647) = oo := ⟨_, rfl⟩
          have HOO := Lib.hid hoo
          clear hoo
          go_wp2_with fail
          refine (raise_is w0.heap.size g _ m sk.d sk.b sk.h bas.length 1 oo HOO.out e0 (by omega) (by omega) (by omega) _ HWk.out).mono ?_
          rintro e w3 ⟨rfl, hW4, hb4⟩
          have hbel4 := hbel.trans hb4
          have c14 : w3.cell? ⟨g, 1, none⟩ = some (.int .i64 m) := by obtain ⟨_, v, hG, _⟩ := hW4; exact hG.cell 1 rfl
          have HW4 := Lib.hid hW4
          clear hb4 hW4
          by_cases hd : sk.d + 1 ≤ 2147483647
          · obtain rfl : oo = true := by rw [← HOO.out]; simpa using hd
            have H1 := Lib.hid (one_lt (p := bas.length) (s := sk) hrm hd)
            go_wp2
            exact ⟨⟨k + 1, ⟨sk.o, sk.d + 1, sk.b, sk.h⟩, by omega, by go_num, Lib.hid (HT.out.trans H1.out), Lib.hid ⟨by dsimp only; omega, hd, e2, e3, e4, e5⟩, Lib.hid (HN.out _ H1.out), HW4, hbel4⟩, by simp [intOf]; omega⟩
          · obtain rfl : oo = false := by rw [← HOO.out]; simpa using hd
            have H1 := Lib.hid (one_over (p := bas.length) (s := sk) hrm hd)
            go_wp2
            go_ret
            exact roundRes_none (round_scan HMm.out HX.out hdX (scan_none _ _ l (k + 1) _ (HT.out.trans H1.out))) hbel4
        · have hne : (r == m) = true := by rw [beq_iff_eq]; omega
          have hnlt : decide (r < m) = false := by rw [decide_eq_false_iff_not]; omega
          obtain ⟨D, hD⟩ : ∃ D, digs sk.d sk.b = D := ⟨_, rfl⟩
          obtain ⟨b2, hb2⟩ : ∃ b2, bias sk.d (sk.h + 1) (sk.h == (bas.length : Int)) = b2 := ⟨_, rfl⟩
          have H1 := Lib.hid (one_eq (p := bas.length) (s := sk) hrm)
          have HBn := Lib.hid (bd_put HBd.out (by omega) hD hb2)
          have HD := Lib.hid hD
          have HB2 := Lib.hid hb2
          rw [hD, hb2] at H1
          clear hD hb2
          go_wp2_with fail
          refine (put_is w0.heap.size g _ m sk.d sk.b sk.h bas.length D b2 HD.out HB2.out e0 e1 e2 e3 e4 (by omega) (by omega) _ (by omega) HWk.out).mono ?_
          rintro e w3 ⟨rfl, hW4, hb4⟩
          have hbel4 := hbel.trans hb4
          have HW4 : Hid (Wst w0.heap.size g base m bas.length ⟨sk.o ++ D, 0, b2, sk.h + 1⟩ w3) := Lib.hid (by unfold Wst; dsimp only; rw [List.map_append, ← List.append_assoc]; exact hW4)
          clear hb4 hW4
          go_wp2
          exact ⟨⟨k + 1, ⟨sk.o ++ D, 0, b2, sk.h + 1⟩, by omega, by go_num, Lib.hid (HT.out.trans H1.out), HBn, Lib.hid (HN.out _ H1.out), HW4, hbel4⟩, by simp [intOf]; omega⟩
        · have hne : (r == m) = false := by rw [beq_eq_false_iff_ne]; omega
          have hnlt : decide (r < m) = false := by rw [decide_eq_false_iff_not]; omega
          have H1 := Lib.hid (one_gt (p := bas.length) (s := sk) hrm)
          go_wp2
          exact ⟨⟨k + 1, sk, by omega, by go_num, Lib.hid (HT.out.trans H1.out), HBd, Lib.hid (HN.out _ H1.out), HWk, hbel⟩, by simp [intOf]; omega⟩
      · have HF : Hid (scan bas.length m ⟨s.o, s.d + X, s.b, s.h⟩ l = some sk) := Lib.hid (by have := HSc.out; rwa [List.take_of_length_le (by omega)] at this)
        obtain ⟨hBg9, v9, hG9, hO9⟩ := HWk.out
        have c1 : w9.cell? ⟨g, 1, none⟩ = some (.int .i64 m) := hG9.cell 1 rfl
        have fz1 := hG9.free 1
        have hgl9 := hG9.lt
        have hG8 := hG9.set 1 (.int .i64 (m + 1))
        have hO8 := own_set hO9 hG9 (by decide) 1 (.int .i64 (m + 1))
        have HW8 : Hid (Wst w0.heap.size g base (m + 1) bas.length sk (w9.setCell ⟨g, 1, none⟩ (.int .i64 (m + 1)))) := Lib.hid ⟨hBg9, v9, hG8, hO8⟩
        have HB8 := Lib.hid (hbel.setCell (p := ⟨g, 1, none⟩) hBg9 (.int .i64 (m + 1)))
        obtain ⟨oo, hoo⟩ : ∃ oo, decide (sk.d + 1 ≤ 2147483647) = oo := ⟨_, rfl⟩
        have HOO := Lib.hid hoo
        clear hoo hG9 hO9 hG8 hO8 HSc
        go_wp2_with fail
        refine (raise_is w0.heap.size g _ (m + 1) sk.d sk.b sk.h bas.length 1 oo HOO.out e0 (by omega) (by omega) (by omega) _ HW8.out).mono ?_
        rintro e w3 ⟨rfl, hW4, hb4⟩
        have hbel4 := HB8.out.trans hb4
        have HW4 := Lib.hid hW4
        clear hb4 hW4
        go_wp2
        go_ret
        by_cases hd : sk.d + 1 ≤ 2147483647
        · obtain rfl : oo = true := by rw [← HOO.out]; simpa using hd
          exact roundRes_some (round_yes HMm.out HX.out hdX HF.out hd) (by rw [HMm.out]; exact HW4.out) ⟨by dsimp only; omega, hd, e2, e3, e4, e5⟩ hbel4
        · obtain rfl : oo = false := by rw [← HOO.out]; simpa using hd
          exact roundRes_none (round_end HMm.out HX.out hdX HF.out hd) hbel4
  · obtain rfl : o = false := by rw [← HO.out]; simpa using hdX
    go_wp2
    go_ret
    exact roundRes_none (round_big (by rw [HMm.out, HX.out]; omega)) hbel
end Go.Proofs.Ythdodmbopchfdaa
