import Derived.Test.YthdodmbopchfdaaPF
namespace Go.Proofs.Ythdodmbopchfdaa
open Go.RowKit P
theorem encode_is (l : List Int) (va : Value) (hl : l.length ≤ 9223372036854775807) (w : World) (hA : RunesAt w va l) : Calls Try.prog 7 #[va] w (encRes l w) := by
  by_cases h1 : 4096 < l.length
  · exact encode_many l va h1 hl w hA
  · by_cases h2 : l.map U.rep = l
    · exact encode_go l va (by omega) h2 w hA
    · exact encode_range l va (by omega) h2 w hA
set_option maxHeartbeats 1000000 in
theorem rbias_is (d m b : Int) (f : Bool) (hb : bias d m f = b) (h0 : 0 ≤ d) (h1 : d ≤ 4294967296) (h2 : 1 ≤ m) (h3 : m ≤ 100000) (w : World) : Calls Try.prog 18 #[.int .i64 d, .int .i64 m, .bool f] w fun e w' => e = .returned (.int .i64 b) ∧ w = w' := by
  have hq := bias0_bd (first := f) h0 h2
  unfold bias at hb
  obtain ⟨q, hq2⟩ : ∃ q, bias0 d m f = q := ⟨_, rfl⟩
  rw [hq2] at hq hb
  have HB := Lib.hid hb
  clear hb
  unfold bias0 at hq2
  cases f with
  | true =>
    simp only [if_true] at hq2
    have e1 : 0 ≤ d / 700 / m := Int.ediv_nonneg (by omega) (by omega)
    have e2 : d / 700 / m ≤ d / 700 := Int.ediv_le_self _ (by omega)
    have HQ := Lib.hid hq2
    clear hq2
    go_enter Try.func18, Try.ntmps18
    go_wp2
    rw [HQ.out]
    go_loop [0, 7] (fun x k => ∃ (fu : Nat) (y z : Int), x = .int .i64 y ∧ k = .int .i64 z ∧ 0 ≤ y ∧ 0 ≤ z ∧ y ≤ 8589934592 ∧ z + y ≤ 8589934592 ∧ y ≤ fu ∧ Hid (biasF fu y z = b)) (fun x _ => (intOf x).toNat)
    case atStart => exact ⟨q.toNat, q, 0, rfl, rfl, by omega, by omega, by omega, by omega, by omega, HB⟩
    case round =>
      obtain ⟨fu, y, z, rfl, rfl, y0, z0, y1, yz, hf, H⟩ := hrel
      by_cases c : 455 < y
      · obtain ⟨fu, rfl⟩ : ∃ g, fu = g + 1 := ⟨fu - 1, by omega⟩
        have H2 := Lib.hid ((biasF_more c).symm.trans H.out)
        clear H
        go_wp2
        go_round
        case rel => exact ⟨fu, y / 35, z + 36, rfl, rfl, by omega, by omega, by omega, by omega, by omega, H2⟩
        case measure => simp [intOf]; omega
      · have H2 := Lib.hid ((biasF_end c).symm.trans H.out)
        have hfr := frac_bd y0
        clear H
        go_wp2
        go_ret
        exact ⟨ret_int H2.out, rfl⟩
  | false =>
    simp only [Bool.false_eq_true, if_false] at hq2
    have e1 : 0 ≤ d / 2 / m := Int.ediv_nonneg (by omega) (by omega)
    have e2 : d / 2 / m ≤ d / 2 := Int.ediv_le_self _ (by omega)
    have HQ := Lib.hid hq2
    clear hq2
    go_enter Try.func18, Try.ntmps18
    go_wp2
    rw [HQ.out]
    go_loop [0, 7] (fun x k => ∃ (fu : Nat) (y z : Int), x = .int .i64 y ∧ k = .int .i64 z ∧ 0 ≤ y ∧ 0 ≤ z ∧ y ≤ 8589934592 ∧ z + y ≤ 8589934592 ∧ y ≤ fu ∧ Hid (biasF fu y z = b)) (fun x _ => (intOf x).toNat)
    case atStart => exact ⟨q.toNat, q, 0, rfl, rfl, by omega, by omega, by omega, by omega, by omega, HB⟩
    case round =>
      obtain ⟨fu, y, z, rfl, rfl, y0, z0, y1, yz, hf, H⟩ := hrel
      by_cases c : 455 < y
      · obtain ⟨fu, rfl⟩ : ∃ g, fu = g + 1 := ⟨fu - 1, by omega⟩
        have H2 := Lib.hid ((biasF_more c).symm.trans H.out)
        clear H
        go_wp2
        go_round
        case rel => exact ⟨fu, y / 35, z + 36, rfl, rfl, by omega, by omega, by omega, by omega, by omega, H2⟩
        case measure => simp [intOf]; omega
      · have H2 := Lib.hid ((biasF_end c).symm.trans H.out)
        have hfr := frac_bd y0
        clear H
        go_wp2
        go_ret
        exact ⟨ret_int H2.out, rfl⟩
theorem rmay_any (r : Int) (w : World) : Calls Try.prog 16 #[.int .i32 r] w fun e w' => e = .returned (.bool (decide (U.May r))) ∧ w = w' := by
  have H : Hid ((U.May r → decide (U.May r) = true) ∧ (¬ U.May r → decide (U.May r) = false)) := Lib.hid ⟨fun h => by simp [h], fun h => by simp [h]⟩
  by_cases h0 : 0 ≤ r
  · by_cases h2 : r < 55296
    · go_enter Try.func16, Try.ntmps16
      go_wp2
      go_ret
      exact ⟨ret_bool (by rw [H.out.1 (by unfold U.May; omega)]), rfl⟩
    · have h2' : decide (r < 55296) = false := decide_eq_false h2
      by_cases h3 : 57343 < r
      · by_cases h4 : r ≤ 1114111
        · go_enter Try.func16, Try.ntmps16
          go_wp2
          go_ret
          exact ⟨ret_bool (by rw [H.out.1 (by unfold U.May; omega)]), rfl⟩
        · have h4' : decide (r ≤ 1114111) = false := decide_eq_false h4
          go_enter Try.func16, Try.ntmps16
          go_wp2
          go_ret
          exact ⟨ret_bool (by rw [H.out.2 (by unfold U.May; omega)]), rfl⟩
      · have h3' : decide (57343 < r) = false := decide_eq_false h3
        go_enter Try.func16, Try.ntmps16
        go_wp2
        go_ret
        exact ⟨ret_bool (by rw [H.out.2 (by unfold U.May; omega)]), rfl⟩
  · have h0' : decide (0 ≤ r) = false := decide_eq_false h0
    have h3' : decide (57343 < r) = false := decide_eq_false (by omega)
    go_enter Try.func16, Try.ntmps16
    go_wp2
    go_ret
    exact ⟨ret_bool (by rw [H.out.2 (by unfold U.May; omega)]), rfl⟩
theorem rmay_yes (r : Int) (h : U.May r) (w : World) : Calls Try.prog 16 #[.int .i32 r] w fun e w' => e = .returned (.bool true) ∧ w = w' :=
  (rmay_any r w).mono fun _ _ ⟨h1, h2⟩ => ⟨by rw [h1, decide_eq_true h], h2⟩
theorem rmay_no (r : Int) (h : ¬ U.May r) (w : World) : Calls Try.prog 16 #[.int .i32 r] w fun e w' => e = .returned (.bool false) ∧ w = w' :=
  (rmay_any r w).mono fun _ _ ⟨h1, h2⟩ => ⟨by rw [h1, decide_eq_false h], h2⟩
set_option maxRecDepth 100000 in
set_option maxHeartbeats 4000000 in
theorem rdigits_is (b q : Int) (D : List Int) (hD : digs q b = D) (hq0 : 0 ≤ q) (hq1 : q ≤ 2147483647) (hb0 : 0 ≤ b) (hb1 : b ≤ 10000000000) (w : World) :
    Calls Try.prog 17 #[.int .i64 q, .int .i64 b] w fun e w' => ∃ v, e = .returned v ∧ OwnB w' w.heap.size v (D.map digZ) ∧ Below w.heap.size w w' := by
  obtain ⟨i0, hi, hz0, hz1, hz2⟩ := info_parts infoByte0
  have HD : Hid (digF q.toNat q 36 b = D) := Lib.hid hD
  clear hD
  go_enter Try.func17, Try.ntmps17
  go_wp2_with fail
  go_loopw [5, 6, 7] (fun v x k wr => ∃ (fu : Nat) (y z : Int) (pre : List Int), x = .int .i64 y ∧ k = .int .i64 z ∧ 0 ≤ y ∧ y ≤ fu ∧ fu + pre.length ≤ 2147483647 ∧ 36 ≤ z ∧ z ≤ 36 * (pre.length + 1) ∧ Hid (pre ++ digF fu y z b = D) ∧ Hid (OwnB wr w.heap.size v (pre.map digZ)) ∧ Below w.heap.size w wr) (fun _ x _ _ => (intOf x).toNat)
  case atStart => exact ⟨q.toNat, q, 36, [], rfl, rfl, hq0, by omega, by simp; omega, by omega, by simp, by simpa using HD, Lib.hid (World.ownsRow_nil _ _ _ _), Below.refl _ _⟩
  case round =>
    clear HD
    obtain ⟨fu, y, z, pre, rfl, rfl, hy0, hy1, hfp, hz36, hzp, HP, HOw, hbel⟩ := hrel
    obtain ⟨t, ht⟩ : ∃ t, thr z b = t := ⟨_, rfl⟩
    have htb := thr_bd z b
    rw [ht] at htb
    have HT := Lib.hid ht
    have hsz := hbel.size
    obtain ⟨w0, rfl⟩ : ∃ w0 : World, w0 = wr := ⟨_, rfl⟩
    obtain ⟨pv, cv, rfl⟩ := HOw.out.form
    obtain ⟨l, hl⟩ : ∃ l, pre.map digZ = l := ⟨_, rfl⟩
    have HL := Lib.hid hl
    rw [hl] at HOw
    have hlen : l.length = pre.length := by rw [← hl, List.length_map]
    have hlen2 : l.length ≤ 2147483647 := by omega
    have HLen := Lib.hid hlen
    have HB9 := Lib.hid hbel
    clear hl ht hlen
    rw [HL.out]
    by_cases hlt : y < t
    · have HE : Hid (pre ++ [y] = D) := Lib.hid (by rw [← HP.out, digF_end (by rw [HT.out]; exact hlt)])
      obtain ⟨c, hc⟩ : ∃ c, digZ y = c := ⟨_, rfl⟩
      have HE2 : Hid (D.map digZ = l ++ [c]) := Lib.hid (by rw [← HE.out, List.map_append, HL.out, List.map_singleton, hc])
      have HC := Lib.hid hc
      clear hc
      go_wp2_with (first | (go_at_call 23; refine (rthr_is z b t HT.out (by omega) (by omega) hb0 (by omega) _).mono ?_; rintro e w' ⟨rfl, rfl⟩) | (go_at_call 30; refine (rdigit_is y c HC.out hy0 (by omega) _).mono ?_; rintro e w' ⟨rfl, rfl⟩) | (at_builtin; refine wpList_append_own _ rfl _ _ 35 rfl w.heap.size 5 i0 (.int .u8 0) 1 1 Try.underlying35 hi hz0 hz1 hz2 rfl (by decide) _ _ _ rfl (HOw.out.alloc _) ⟨w0.heap.size, 0, none⟩ 1 1 [.int .u8 c] rfl rfl (by exact lit8 w0 c) (one8 c) (by unfold maxLen; omega) (by omega) (by first | omega | (simp; omega)) ?_; intro v3 w3 hown3 hgrow3 _; have HO3 : Hid (OwnB w3 w.heap.size v3 (l ++ [c])) := Lib.hid (ownb_snoc hown3); have HB3 : Hid (Below w.heap.size w w3) := Lib.hid (belb_grown (v := .slice pv l.length cv) (HB9.out.alloc (by first | omega | (simp; omega)) _) (HOw.out.alloc _) hgrow3 (by first | omega | (simp; omega))); clear hown3 hgrow3))
      go_ret
      exact ⟨_, rfl, by rw [HE2.out]; exact HO3.out, HB3.out⟩
    · have hnx := next_bd (q := y) (k := z) (b := b) (by rw [HT.out]; exact hlt)
      obtain ⟨fu, rfl⟩ : ∃ f, fu = f + 1 := ⟨fu - 1, by omega⟩
      have hdm := digF_more (f := fu) (q := y) (k := z) (b := b) (by rw [HT.out]; exact hlt)
      rw [HT.out] at hnx hdm
      obtain ⟨r, hr⟩ : ∃ r, (y - t) % (36 - t) = r := ⟨_, rfl⟩
      obtain ⟨q2, hq2⟩ : ∃ q, (y - t) / (36 - t) = q := ⟨_, rfl⟩
      rw [hr, hq2] at hnx hdm
      obtain ⟨c, hc⟩ : ∃ c, digZ (t + r) = c := ⟨_, rfl⟩
      have HE : Hid ((pre ++ [t + r]) ++ digF fu q2 (z + 36) b = D) := Lib.hid (by rw [← HP.out, hdm]; simp)
      have HE2 : Hid ((pre ++ [t + r]).map digZ = l ++ [c]) := Lib.hid (by rw [List.map_append, HL.out, List.map_singleton, hc])
      have HR := Lib.hid hr
      have HQ := Lib.hid hq2
      have HC := Lib.hid hc
      have hr0 : 0 ≤ (y - t) % (36 - t) := by rw [hr]; omega
      have hr1 : (y - t) % (36 - t) < 36 - t := by rw [hr]; omega
      clear hc hdm hr hq2
      go_wp2_with (first | (go_at_call 23; refine (rthr_is z b t HT.out (by omega) (by omega) hb0 (by omega) _).mono ?_; rintro e w' ⟨rfl, rfl⟩) | (go_at_call 30; refine (rdigit_is _ c (by rw [HR.out]; exact HC.out) (by rw [HR.out]; omega) (by rw [HR.out]; omega) _).mono ?_; rintro e w' ⟨rfl, rfl⟩) | (at_builtin; refine wpList_append_own _ rfl _ _ 35 rfl w.heap.size 5 i0 (.int .u8 0) 1 1 Try.underlying35 hi hz0 hz1 hz2 rfl (by decide) _ _ _ rfl (HOw.out.alloc _) ⟨w0.heap.size, 0, none⟩ 1 1 [.int .u8 c] rfl rfl (by exact lit8 w0 c) (one8 c) (by unfold maxLen; omega) (by omega) (by first | omega | (simp; omega)) ?_; intro v3 w3 hown3 hgrow3 _; have HO3 : Hid (OwnB w3 w.heap.size v3 (l ++ [c])) := Lib.hid (ownb_snoc hown3); have HB3 : Hid (Below w.heap.size w w3) := Lib.hid (belb_grown (v := .slice pv l.length cv) (HB9.out.alloc (by first | omega | (simp; omega)) _) (HOw.out.alloc _) hgrow3 (by first | omega | (simp; omega))); clear hown3 hgrow3))
      go_roundw
      case rel =>
        rw [HQ.out]
        exact ⟨fu, q2, z + 36, pre ++ [t + r], rfl, rfl, hnx.1, by omega, by simp; omega, by omega, by simp; omega, HE, Lib.hid (by rw [HE2.out]; exact HO3.out), HB3.out⟩
      case measure => rw [HQ.out]; simp [intOf]; omega
end Go.Proofs.Ythdodmbopchfdaa
