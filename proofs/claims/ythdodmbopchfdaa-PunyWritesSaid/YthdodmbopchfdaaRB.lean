import Derived.Test.YthdodmbopchfdaaRA
namespace Go.Proofs.Ythdodmbopchfdaa
open Go.RowKit P
theorem drop_cons8 (u : ByteArray) (k : Nat) (h : k < u.size) : u.data.toList.drop k = u[k] :: u.data.toList.drop (k + 1) := by
  rw [List.drop_eq_getElem_cons (by simpa using h)]; rfl
theorem drop_end8 (u : ByteArray) (k : Nat) (h : ¬ k < u.size) : u.data.toList.drop k = [] := by
  rw [List.drop_eq_nil_of_le]
  rw [Array.length_toList]
  exact Nat.le_of_not_lt h
def aOf (w : World) (g : Nat) : Nat := match w.cell? ⟨g, 1, none⟩ with | some (.int _ h) => h.toNat | _ => 0
theorem aOf_is {B g : Nat} {u : ByteArray} {a : Nat} {l : List Int} {i n b : Int} {w : World} (h : Rd B g u a l i n b w) : aOf w g = a := by
  obtain ⟨_, v, hG, _⟩ := h
  have c1 : w.cell? ⟨g, 1, none⟩ = some (.int .i64 a) := hG.cell 1 rfl
  unfold aOf
  rw [c1]
  exact Int.toNat_natCast a
/-- what reading a number leaves -/
def NumPost (B g : Nat) (u : ByteArray) (a : Nat) (l : List Int) (n b : Int) (res : NumR) (w : World) (e : Ending) (w' : World) : Prop :=
  match res with
  | .err c => e = .returned (.int .i64 c) ∧ c ≠ 0 ∧ Below B w w'
  | .ok i' rest => e = .returned (.int .i64 0) ∧ (∃ a' : Nat, a < a' ∧ a' ≤ u.size ∧ u.data.toList.drop a' = rest ∧ Rd B g u a' l i' n b w') ∧ 0 ≤ i' ∧ i' ≤ 2147483647 ∧ Below B w w'
theorem numPost_err {B g : Nat} {u : ByteArray} {a : Nat} {l : List Int} {n b : Int} {res : NumR} {w w' : World} {c : Int} (h : res = .err c) (hc : c ≠ 0) (hb : Below B w w') : NumPost B g u a l n b res w (.returned (.int .i64 c)) w' := by
  subst h; exact ⟨rfl, hc, hb⟩
theorem numPost_ok {B g : Nat} {u : ByteArray} {a : Nat} {l : List Int} {n b : Int} {res : NumR} {w w' : World} {i' : Int} {a' : Nat} (h : res = .ok i' (u.data.toList.drop a')) (h1 : a < a') (h2 : a' ≤ u.size) (hr : Rd B g u a' l i' n b w') (h3 : 0 ≤ i') (h4 : i' ≤ 2147483647) (hb : Below B w w') : NumPost B g u a l n b res w (.returned (.int .i64 0)) w' := by
  subst h; exact ⟨rfl, ⟨a', h1, h2, rfl, hr⟩, h3, h4, hb⟩
theorem num_nil {k w i b : Int} : num [] k w i b = .err 9 := rfl
theorem num_bad {c : UInt8} {t : List UInt8} {k w i b : Int} (h : valN c.toNat = none) : num (c :: t) k w i b = .err 9 := by rw [num, h]
theorem num_over {c : UInt8} {t : List UInt8} {k w i b d : Int} (h : valN c.toNat = some d) (h1 : 2147483647 < i + d * w) : num (c :: t) k w i b = .err 10 := by rw [num, h]; dsimp only; rw [if_pos h1]
theorem num_last {c : UInt8} {t : List UInt8} {k w i b d : Int} (h : valN c.toNat = some d) (h1 : ¬ 2147483647 < i + d * w) (h2 : d < thr k b) : num (c :: t) k w i b = .ok (i + d * w) t := by rw [num, h]; dsimp only; rw [if_neg h1, if_pos h2]
theorem num_wide {c : UInt8} {t : List UInt8} {k w i b d : Int} (h : valN c.toNat = some d) (h1 : ¬ 2147483647 < i + d * w) (h2 : ¬ d < thr k b) (h3 : 2147483647 < w * (36 - thr k b)) : num (c :: t) k w i b = .err 10 := by rw [num, h]; dsimp only; rw [if_neg h1, if_neg h2, if_pos h3]
theorem num_next {c : UInt8} {t : List UInt8} {k w i b d : Int} (h : valN c.toNat = some d) (h1 : ¬ 2147483647 < i + d * w) (h2 : ¬ d < thr k b) (h3 : ¬ 2147483647 < w * (36 - thr k b)) : num (c :: t) k w i b = num t (k + 36) (w * (36 - thr k b)) (i + d * w) b := by rw [num, h]; dsimp only; rw [if_neg h1, if_neg h2, if_neg h3]
theorem mul_bd {d w D W : Int} (h0 : 0 ≤ d) (h1 : d ≤ D) (h2 : 0 ≤ w) (h3 : w ≤ W) : 0 ≤ d * w ∧ d * w ≤ D * W :=
  ⟨Int.mul_nonneg h0 h2, Int.le_trans (Int.mul_le_mul_of_nonneg_right h1 h2) (Int.mul_le_mul_of_nonneg_left h3 (by omega))⟩
set_option maxRecDepth 100000 in
set_option maxHeartbeats 4000000 in
theorem rnum_is (B g : Nat) (u : ByteArray) (a : Nat) (l : List Int) (i n b : Int) (res : NumR) (hres : num (u.data.toList.drop a) 36 1 i b = res) (hu : u.size ≤ 4096) (ha : a ≤ u.size) (hi0 : 0 ≤ i) (hi1 : i ≤ 2147483647) (hb0 : 0 ≤ b) (hb1 : b ≤ 10000000000) (w : World) (hR : Rd B g u a l i n b w) :
    Calls Try.prog 32 #[.pointer (some ⟨g, 0, none⟩)] w (NumPost B g u a l n b res w) := by
  have HR := Lib.hid hR
  have HRes := Lib.hid hres
  clear hR hres
  go_enter Try.func32, Try.ntmps32
  go_wp2_with fail
  go_loopw [3, 4] (fun x y wr => ∃ (a' : Nat) (w' k' i' : Int), x = .int .i64 w' ∧ y = .int .i64 k' ∧ Hid (num (u.data.toList.drop a') k' w' i' b = res) ∧ a ≤ a' ∧ a' ≤ u.size ∧ k' = 36 * ((a' : Int) - a + 1) ∧ 1 ≤ w' ∧ w' ≤ 2147483647 ∧ 0 ≤ i' ∧ i' ≤ 2147483647 ∧ Hid (Rd B g u a' l i' n b wr) ∧ Below B w wr) (fun _ _ wr => u.size - aOf wr g)
  case atStart => exact ⟨a, 1, 36, i, rfl, rfl, HRes, by omega, ha, by omega, by omega, by omega, hi0, hi1, HR, Below.refl _ _⟩
  case round =>
    clear HR HRes
    obtain ⟨a', w', k', i', rfl, rfl, HN, ha1, ha2, hk, hw1, hw2, hi2, hi3, HRd, hbel⟩ := hrel
    obtain ⟨w9, rfl⟩ : ∃ w9 : World, w9 = wr := ⟨_, rfl⟩
    have HAo := Lib.hid (aOf_is HRd.out)
    have hkb : 0 ≤ k' ∧ k' ≤ 147492 := by omega
    have HK := Lib.hid hk
    clear hk
    by_cases hlt : a' < u.size
    · have hd := drop_cons8 u a' hlt
      cases hv : valN u[a'].toNat with
      | none =>
        have HX : Hid (res = .err 9) := Lib.hid (by rw [← HN.out, hd, num_bad hv])
        have HV1 : Hid ((valN u[a'].toNat).isSome = false) := Lib.hid (by rw [hv]; rfl)
        have HV2 : Hid (valT u[a'].toNat = 0) := Lib.hid (by unfold valT; rw [hv]; rfl)
        clear hd hv
        go_wp2_with fail
        refine (next_some B g u a' l i' n b (by omega) hlt _ HRd.out).mono ?_
        rw [HV1.out, HV2.out]
        rintro e w3 ⟨rfl, hR3, hb3⟩
        go_wp2
        go_ret
        exact numPost_err HX.out (by decide) (hbel.trans hb3)
      | some d =>
        have hdb := valN_bd hv
        have HV := Lib.hid hv
        have HV1 : Hid ((valN u[a'].toNat).isSome = true) := Lib.hid (by rw [hv]; rfl)
        have HV2 : Hid (valT u[a'].toNat = d) := Lib.hid (by unfold valT; rw [hv]; rfl)
        have HD := Lib.hid hd
        have hmu := mul_bd hdb.1 hdb.2 (show 0 ≤ w' by omega) hw2
        clear hd hv
        go_wp2_with fail
        refine (next_some B g u a' l i' n b (by omega) hlt _ HRd.out).mono ?_
        rw [HV1.out, HV2.out]
        rintro e w3 ⟨rfl, hR3, hb3⟩
        obtain ⟨hBg, v, hG, hO⟩ := hR3
        have hbel3 := hbel.trans hb3
        have c3 : w3.cell? ⟨g, 3, none⟩ = some (.int .i64 i') := hG.cell 3 rfl
        have c5 : w3.cell? ⟨g, 5, none⟩ = some (.int .i64 b) := hG.cell 5 rfl
        have fz3 := hG.free 3
        have hG4 := hG.set 3 (.int .i64 (i' + d * w'))
        have c54 : (w3.setCell ⟨g, 3, none⟩ (.int .i64 (i' + d * w'))).cell? ⟨g, 5, none⟩ = some (.int .i64 b) := hG4.cell 5 rfl
        have c34 : (w3.setCell ⟨g, 3, none⟩ (.int .i64 (i' + d * w'))).cell? ⟨g, 3, none⟩ = some (.int .i64 (i' + d * w')) := hG4.cell 3 rfl
        have HR4 : Hid (Rd B g u (a' + 1) l (i' + d * w') n b (w3.setCell ⟨g, 3, none⟩ (.int .i64 (i' + d * w')))) := Lib.hid ⟨hBg, v, hG4, own_set hO hG (by decide) 3 _⟩
        have HB4 := Lib.hid (hbel3.setCell (p := ⟨g, 3, none⟩) hBg (.int .i64 (i' + d * w')))
        obtain ⟨t, ht⟩ : ∃ t, thr k' b = t := ⟨_, rfl⟩
        have htb := thr_bd k' b
        rw [ht] at htb
        have HT := Lib.hid ht
        clear ht hG hO hG4 hb3 hbel3
        by_cases ho : 2147483647 < i' + d * w'
        · have HX : Hid (res = .err 10) := Lib.hid (by rw [← HN.out, HD.out, num_over HV.out ho])
          go_wp2
          go_ret
          exact numPost_err HX.out (by decide) HB4.out
        · by_cases hdt : d < t
          · have HX : Hid (res = .ok (i' + d * w') (u.data.toList.drop (a' + 1))) := Lib.hid (by rw [← HN.out, HD.out, num_last HV.out ho (by rw [HT.out]; exact hdt)])
            go_wp2_with (go_at_call 43; refine (thr_is k' b t HT.out (by omega) (by omega) hb0 (by omega) _).mono ?_; rintro e w' ⟨rfl, rfl⟩)
            go_ret
            exact numPost_ok HX.out (by omega) (by omega) HR4.out (by omega) (by omega) HB4.out
          · have hmw := mul_bd (show 0 ≤ w' by omega) hw2 (show 0 ≤ 36 - t by omega) (show 36 - t ≤ 35 by omega)
            have hmw2 : 1 ≤ w' * (36 - t) := by
              have := Int.mul_le_mul hw1 (show (1 : Int) ≤ 36 - t by omega) (by omega) (by omega)
              omega
            by_cases hww : 2147483647 < w' * (36 - t)
            · have HX : Hid (res = .err 10) := Lib.hid (by rw [← HN.out, HD.out, num_wide HV.out ho (by rw [HT.out]; exact hdt) (by rw [HT.out]; exact hww)])
              go_wp2_with (go_at_call 43; refine (thr_is k' b t HT.out (by omega) (by omega) hb0 (by omega) _).mono ?_; rintro e w' ⟨rfl, rfl⟩)
              go_ret
              exact numPost_err HX.out (by decide) HB4.out
            · have HX : Hid (num (u.data.toList.drop (a' + 1)) (k' + 36) (w' * (36 - t)) (i' + d * w') b = res) := Lib.hid (by rw [← HN.out, HD.out, num_next HV.out ho (by rw [HT.out]; exact hdt) (by rw [HT.out]; exact hww), HT.out])
              have HAo2 := Lib.hid (aOf_is HR4.out)
              go_wp2_with (go_at_call 43; refine (thr_is k' b t HT.out (by omega) (by omega) hb0 (by omega) _).mono ?_; rintro e w' ⟨rfl, rfl⟩)
              exact ⟨⟨a' + 1, w' * (36 - t), k' + 36, i' + d * w', rfl, rfl, HX, by omega, by omega, by have := HK.out; omega, by omega, by omega, by omega, by omega, HR4, HB4.out⟩, by rw [HAo2.out, HAo.out]; omega⟩
    · have HX : Hid (res = .err 9) := Lib.hid (by rw [← HN.out, drop_end8 u a' hlt]; rfl)
      go_wp2_with fail
      refine (next_none B g u a' l i' n b (by omega) (by omega) _ HRd.out).mono ?_
      rintro e w3 ⟨rfl, hb3⟩
      go_wp2
      go_ret
      exact numPost_err HX.out (by decide) (hbel.trans hb3)
end Go.Proofs.Ythdodmbopchfdaa
