/-
  The walk of CspSplits.
-/
import Derived.Test.YtempmmkdppelaaaGreatDoorBKM
namespace Go.Proofs.YtempmmkdppelaaaGreatDoor
open Go.RowKit
theorem parse_one {a : ByteArray} {l : List Dir} (ha : (59 : UInt8) ∉ a.data.toList) (h : parseP a = .ok l) : stepD (some []) a.data.toList = some l := by
  unfold parseP at h
  split at h
  · cases h
  · split at h
    · cases h
    · rename_i hp; cases h
      unfold parseD at hp
      rw [Ks.partsAt_miss _ _ ha] at hp
      exact hp
theorem step_small {p : List UInt8} {l : List Dir} (h : stepD (some []) p = some l) : l = [] ∨ ∃ d, l = [d] := by
  unfold stepD at h
  simp only at h
  split at h
  · cases h; exact .inl rfl
  · simp only [List.any_nil, Bool.false_eq_true, if_false] at h
    split at h
    · cases h
    · cases h; exact .inr ⟨_, rfl⟩
/-- directives of unlike names, a semicolon between -/
theorem splits_two {a b : ByteArray} {d e : Dir} {l : List Dir} (ha : (59 : UInt8) ∉ a.data.toList) (hb : (59 : UInt8) ∉ b.data.toList) (h1 : parseP a = .ok [d]) (h2 : parseP b = .ok [e]) (h3 : parseP (a ++ ⟨#[59]⟩ ++ b) = .ok l) (hne : ¬ d.1 = e.1) : l = [d, e] := by
  have s1 := parse_one ha h1
  have s2 := parse_one hb h2
  unfold parseP at h3
  split at h3
  · cases h3
  · split at h3
    · cases h3
    · rename_i l' hp; cases h3
      unfold parseD at hp
      rw [show (a ++ ⟨#[59]⟩ ++ b : ByteArray).data.toList = a.data.toList ++ 59 :: b.data.toList by simp only [ByteArray.data_append, Array.toList_append]; rw [List.append_assoc]; rfl,
        Ks.partsAt_hit _ _ _ ha, Ks.partsAt_miss _ _ hb] at hp
      unfold partsD at hp
      simp only [List.foldl_cons, List.foldl_nil] at hp
      rw [s1] at hp
      unfold stepD at hp s2
      simp only at hp s2
      split at s2
      · cases s2
      · rename_i w vs hw
        simp only [List.any_nil, Bool.false_eq_true, if_false] at s2
        split at s2
        · cases s2
        · rename_i hno
          simp only [List.nil_append, Option.some.injEq, List.cons.injEq, and_true] at s2
          subst s2
          have hn : ([d].any (isD (lowS w))) = false := by
            simp only [List.any_cons, List.any_nil, Bool.or_false, isD]
            exact beq_eq_false_iff_ne.2 fun h => hne (toList_inj h)
          rw [hw] at hp
          simp only [hn, Bool.false_eq_true, if_false] at hp
          rw [if_neg (by simp only [List.length_singleton, List.length_nil] at *; omega)] at hp
          cases hp; rfl
theorem dirs_two {w : World} {B : Nat} {a b : ByteArray} {va vb : Value} {la lb : List ByteArray} (h : Has w B (.cells #[.string a, va, .string b, vb] 35)) (ha : Strs w va la) (hb : Strs w vb lb) : Dirs w (.slice (some ⟨B, 0, none⟩) 2 2) [(a, la), (b, lb)] :=
  ⟨_, 2, rfl, Nat.le_refl _, fun i x hi => by
    match i, hi with
    | 0, hi => cases hi; exact ⟨B, 0, va, rfl, h.lt, h.cell 0 rfl, h.cell 1 rfl, ha⟩
    | 1, hi => cases hi; exact ⟨B, 0, vb, rfl, h.lt, h.cell 2 rfl, h.cell 3 rfl, hb⟩
    | i + 2, hi => simp at hi⟩
set_option maxHeartbeats 2000000 in
set_option maxRecDepth 100000 in
theorem CspSplits_std (a b : ByteArray) (hab : a.size + b.size ≤ 1048576) (w : World) (hM : ML w) :
    Calls Tryz.prog 9 #[.string a, .string b] w fun e w' => e = .returned (.bool true) ∧ Below w.heap.size w w' := by
  have HL := Lib.hid (lives_is w hM)
  clear hM
  go_enter Tryz.func9, Tryz.ntmps9
  go_wp2_with (go_at_call 18; refine HL.out.mono ?_; rintro e w1 ⟨rfl, hb1⟩; have HB1 := Lib.hid hb1; clear hb1)
  clear HL
  go_loopw [5] (fun i wr => ∃ k : Nat, k ≤ a.size ∧ i = .int .i64 k ∧ Hid ((59 : UInt8) ∉ a.data.toList.take k) ∧ Hid (Below w.heap.size w wr)) (fun i _ => a.size - (intOf i).toNat)
  case atStart => exact ⟨0, by omega, rfl, Lib.hid (by simp), HB1⟩
  case round =>
    obtain ⟨k, hk, rfl, HE, HB⟩ := hrel
    by_cases hlt : k < a.size
    · have i1 : (k : Int) < (a.size : Int) := by omega
      have hbk : a.data.toList[k]? = some a[k] := by rw [List.getElem?_eq_getElem (by rw [Ks.len_list]; exact hlt)]; rfl
      by_cases h59 : a[k] = 59
      · have g := byte_eq 59 rfl h59
        go_wp2_with fail
        go_ret
        exact ⟨rfl, HB.out⟩
      · have g := byte_ne 59 rfl h59
        have HT := Lib.hid (notin_take HE.out hbk h59)
        go_wp2_with fail
        go_roundw
        case rel => exact ⟨k + 1, by omega, by go_num, HT, HB⟩
        case measure => simp [intOf]; omega
    · have HNa := Lib.hid (show (59 : UInt8) ∉ a.data.toList from by have := HE.out; rwa [List.take_of_length_le (by rw [Ks.len_list]; omega)] at this)
      have HB1 := HB
      have hk2 : k = a.size := by omega
      subst hk2
      clear HE HB hk
      go_wp2_with fail
      go_loopw [6] (fun i wr => ∃ k : Nat, k ≤ b.size ∧ i = .int .i64 k ∧ Hid ((59 : UInt8) ∉ b.data.toList.take k) ∧ Hid (Below w.heap.size w wr)) (fun i _ => b.size - (intOf i).toNat)
      case atStart => exact ⟨0, by omega, rfl, Lib.hid (by simp), HB1⟩
      case round =>
        obtain ⟨k, hk, rfl, HE, HB⟩ := hrel
        by_cases hlt : k < b.size
        · have i1 : (k : Int) < (b.size : Int) := by omega
          have hbk : b.data.toList[k]? = some b[k] := by rw [List.getElem?_eq_getElem (by rw [Ks.len_list]; exact hlt)]; rfl
          by_cases h59 : b[k] = 59
          · have g := byte_eq 59 rfl h59
            go_wp2_with fail
            go_ret
            exact ⟨rfl, HB.out⟩
          · have g := byte_ne 59 rfl h59
            have HT := Lib.hid (notin_take HE.out hbk h59)
            go_wp2_with fail
            go_roundw
            case rel => exact ⟨k + 1, by omega, by go_num, HT, HB⟩
            case measure => simp [intOf]; omega
        · have HNb := Lib.hid (show (59 : UInt8) ∉ b.data.toList from by have := HE.out; rwa [List.take_of_length_le (by rw [Ks.len_list]; omega)] at this)
          have HB1 := HB
          have hk2 : k = b.size := by omega
          subst hk2
          clear HE HB hk
          have i2 : ¬ 9223372036854775807 < a.size + 1 := by omega
          have i3 : ¬ 9223372036854775807 < a.size + 1 + b.size := by omega
          obtain ⟨s1, h1⟩ : ∃ st, parseP a = st := ⟨_, rfl⟩
          obtain ⟨s2, h2⟩ : ∃ st, parseP b = st := ⟨_, rfl⟩
          obtain ⟨s3, h3⟩ : ∃ st, parseP (a ++ ⟨#[59]⟩ ++ b) = st := ⟨_, rfl⟩
          have HP1 := Lib.hid (fun W : World => parse_dirs a false s1 h1 (by omega) W)
          have HP2 := Lib.hid (fun W : World => parse_dirs b false s2 h2 (by omega) W)
          have HP3 := Lib.hid (fun W : World => parse_dirs (a ++ ⟨#[59]⟩ ++ b) false s3 h3 (by rw [ByteArray.size_append, ByteArray.size_append]; have : ByteArray.size ⟨#[59]⟩ = 1 := rfl; omega) W)
          have HH := Lib.hid (And.intro h1 (And.intro h2 h3))
          clear h1 h2 h3
          rw [show paR false s1 = false from by cases s1 <;> rfl] at HP1
          rw [show paR false s2 = false from by cases s2 <;> rfl] at HP2
          rw [show paR false s3 = false from by cases s3 <;> rfl] at HP3
          go_wp2_with fail
          refine (HP1.out _).mono ?_
          rintro e w2 ⟨⟨q1, k1, rfl, hd1⟩, hb2⟩
          have HB2 := Lib.hid (HB1.out.trans (hb2.mono HB1.out.size))
          have HX2 := Lib.hid (Has.new w2 (.cells #[.slice q1 (paL s1).length k1, .bool false] 25))
          have HD2 := Lib.hid (Dirs.to hd1 (bnew w2 (.cells #[.slice q1 (paL s1).length k1, .bool false] 25)))
          clear hd1 hb2 HB1
          go_wp2_with fail
          refine (HP2.out _).mono ?_
          rintro e w3 ⟨⟨q2, k2, rfl, hd2⟩, hb3⟩
          have HB3 := Lib.hid ((HB2.out.alloc HB2.out.size (.cells #[.slice q1 (paL s1).length k1, .bool false] 25)).trans (hb3.mono (by have := HB2.out.size; simp; omega)))
          have HX3 := Lib.hid ((HX2.out.to hb3).alloc (.cells #[.slice q2 (paL s2).length k2, .bool false] 25))
          have HY3 := Lib.hid (Has.new w3 (.cells #[.slice q2 (paL s2).length k2, .bool false] 25))
          have HD3 := Lib.hid ((HD2.out.to hb3).to (bnew w3 (.cells #[.slice q2 (paL s2).length k2, .bool false] 25)))
          have HE3 := Lib.hid (Dirs.to hd2 (bnew w3 (.cells #[.slice q2 (paL s2).length k2, .bool false] 25)))
          clear hd2 hb3 HB2 HX2 HD2
          go_wp2_with fail
          refine (HP3.out _).mono ?_
          rintro e w4 ⟨⟨q3, k3, rfl, hd3⟩, hb4⟩
          have HB4 := Lib.hid (((HB3.out.alloc HB3.out.size (.cells #[.slice q2 (paL s2).length k2, .bool false] 25)).trans (hb4.mono (by have := HB3.out.size; simp; omega))).alloc (by have := HB3.out.size; have := hb4.size; simp at this; omega) (.cells #[.slice q3 (paL s3).length k3, .bool false] 25))
          have HX4 := Lib.hid ((HX3.out.to hb4).alloc (.cells #[.slice q3 (paL s3).length k3, .bool false] 25))
          have HY4 := Lib.hid ((HY3.out.to hb4).alloc (.cells #[.slice q3 (paL s3).length k3, .bool false] 25))
          have HZ4 := Lib.hid (Has.new w4 (.cells #[.slice q3 (paL s3).length k3, .bool false] 25))
          have HD4 := Lib.hid ((HD3.out.to hb4).to (bnew w4 (.cells #[.slice q3 (paL s3).length k3, .bool false] 25)))
          have HE4 := Lib.hid ((HE3.out.to hb4).to (bnew w4 (.cells #[.slice q3 (paL s3).length k3, .bool false] 25)))
          have HF4 := Lib.hid (Dirs.to hd3 (bnew w4 (.cells #[.slice q3 (paL s3).length k3, .bool false] 25)))
          clear hd3 hb4 HB3 HX3 HY3 HD3 HE3
          generalize hc1 : paC s1 = c1 at *
          generalize hc2 : paC s2 = c2 at *
          generalize hc3 : paC s3 = c3 at *
          generalize hn1 : (paL s1).length = n1 at *
          generalize hn2 : (paL s2).length = n2 at *
          generalize hn3 : (paL s3).length = n3 at *
          have HK := Lib.hid (And.intro hc1 (And.intro hc2 (And.intro hc3 (And.intro hn1 (And.intro hn2 hn3)))))
          have hm0 : Tryz.prog.follows .mixedOrders = true := by kernel_rfl
          clear HP1 HP2 HP3 hc1 hc2 hc3 hn1 hn2 hn3
          go_wp2_with fail
          obtain ⟨V, hV⟩ : ∃ V, w4.alloc (.cells #[.slice q3 n3 k3, .bool false] 25) = V := ⟨_, rfl⟩
          rw [hV] at HB4 HX4 HY4 HZ4 HD4 HE4 HF4 ⊢
          clear hV
          have x0 := HX4.out.cell 0 rfl
          have y0 := HY4.out.cell 0 rfl
          have z0 := HZ4.out.cell 0 rfl
          obtain ⟨p1, p2, p3⟩ := HH.out
          obtain ⟨e1, e2, e3, e4, e5, e6⟩ := HK.out
          clear HH HK
          cases s1 with
          | error c =>
            have f1 := parse_err p1
            have f1' : c = c1 := e1
            cases s3 with
            | error c =>
              have f3 := parse_err p3
              have f6 : n3 = 0 := by rw [← e6]; rfl
              have f3' : c = c3 := e3
              clear p1 p2 p3 e1 e2 e3 e4 e5 e6
              have gc1 : ((c1 : Int) != 0) = true := by rw [bne_iff_ne]; omega
              have gd1 : ((c1 : Int) == 0) = false := beq_eq_false_iff_ne.2 (by omega)
              have gc3 : ((c3 : Int) != 0) = true := by rw [bne_iff_ne]; omega
              have gd3 : ((c3 : Int) == 0) = false := beq_eq_false_iff_ne.2 (by omega)
              have gn3 : ((n3 : Int) == 0) = true := beq_iff_eq.2 (by omega)
              clear HD4 HE4 HF4
              try clear f1
              try clear f2
              try clear f3
              try clear f1'
              try clear f2'
              try clear f3'
              try clear f4
              try clear f5
              try clear f6
              go_quiet (fail)
              go_wp2_with fail
              go_ret
              exact ⟨rfl, below_dn HB4.out nq⟩
            | ok l3 =>
              have f3' : (0 : Nat) = c3 := e3
              clear p1 p2 p3 e1 e2 e3 e4 e5 e6
              have gc1 : ((c1 : Int) != 0) = true := by rw [bne_iff_ne]; omega
              have gd1 : ((c1 : Int) == 0) = false := beq_eq_false_iff_ne.2 (by omega)
              have gc3 : ((c3 : Int) != 0) = false := by rw [bne_eq_false_iff_eq]; omega
              have gd3 : ((c3 : Int) == 0) = true := beq_iff_eq.2 (by omega)
              clear HD4 HE4 HF4
              try clear f1
              try clear f2
              try clear f3
              try clear f1'
              try clear f2'
              try clear f3'
              try clear f4
              try clear f5
              try clear f6
              go_quiet (fail)
              go_wp2_with fail
              go_ret
              exact ⟨rfl, below_dn HB4.out nq⟩
          | ok l1 =>
            have f1' : (0 : Nat) = c1 := e1
            cases s2 with
            | error c =>
              have f2 := parse_err p2
              have f2' : c = c2 := e2
              cases s3 with
              | error c =>
                have f3 := parse_err p3
                have f6 : n3 = 0 := by rw [← e6]; rfl
                have f3' : c = c3 := e3
                clear p1 p2 p3 e1 e2 e3 e4 e5 e6
                have gc1 : ((c1 : Int) != 0) = false := by rw [bne_eq_false_iff_eq]; omega
                have gd1 : ((c1 : Int) == 0) = true := beq_iff_eq.2 (by omega)
                have gc2 : ((c2 : Int) != 0) = true := by rw [bne_iff_ne]; omega
                have gd2 : ((c2 : Int) == 0) = false := beq_eq_false_iff_ne.2 (by omega)
                have gc3 : ((c3 : Int) != 0) = true := by rw [bne_iff_ne]; omega
                have gd3 : ((c3 : Int) == 0) = false := beq_eq_false_iff_ne.2 (by omega)
                have gn3 : ((n3 : Int) == 0) = true := beq_iff_eq.2 (by omega)
                clear HD4 HE4 HF4
                try clear f1
                try clear f2
                try clear f3
                try clear f1'
                try clear f2'
                try clear f3'
                try clear f4
                try clear f5
                try clear f6
                go_quiet (fail)
                go_wp2_with fail
                go_ret
                exact ⟨rfl, below_dn HB4.out nq⟩
              | ok l3 =>
                have f3' : (0 : Nat) = c3 := e3
                clear p1 p2 p3 e1 e2 e3 e4 e5 e6
                have gc1 : ((c1 : Int) != 0) = false := by rw [bne_eq_false_iff_eq]; omega
                have gd1 : ((c1 : Int) == 0) = true := beq_iff_eq.2 (by omega)
                have gc2 : ((c2 : Int) != 0) = true := by rw [bne_iff_ne]; omega
                have gd2 : ((c2 : Int) == 0) = false := beq_eq_false_iff_ne.2 (by omega)
                have gc3 : ((c3 : Int) != 0) = false := by rw [bne_eq_false_iff_eq]; omega
                have gd3 : ((c3 : Int) == 0) = true := beq_iff_eq.2 (by omega)
                clear HD4 HE4 HF4
                try clear f1
                try clear f2
                try clear f3
                try clear f1'
                try clear f2'
                try clear f3'
                try clear f4
                try clear f5
                try clear f6
                go_quiet (fail)
                go_wp2_with fail
                go_ret
                exact ⟨rfl, below_dn HB4.out nq⟩
            | ok l2 =>
              have f2' : (0 : Nat) = c2 := e2
              cases s3 with
              | error c =>
                have f3 := parse_err p3
                have f6 : n3 = 0 := by rw [← e6]; rfl
                have f3' : c = c3 := e3
                clear p1 p2 p3 e1 e2 e3 e4 e5 e6
                have gc1 : ((c1 : Int) != 0) = false := by rw [bne_eq_false_iff_eq]; omega
                have gd1 : ((c1 : Int) == 0) = true := beq_iff_eq.2 (by omega)
                have gc2 : ((c2 : Int) != 0) = false := by rw [bne_eq_false_iff_eq]; omega
                have gd2 : ((c2 : Int) == 0) = true := beq_iff_eq.2 (by omega)
                have gc3 : ((c3 : Int) != 0) = true := by rw [bne_iff_ne]; omega
                have gd3 : ((c3 : Int) == 0) = false := beq_eq_false_iff_ne.2 (by omega)
                have gn3 : ((n3 : Int) == 0) = true := beq_iff_eq.2 (by omega)
                clear HD4 HE4 HF4
                try clear f1
                try clear f2
                try clear f3
                try clear f1'
                try clear f2'
                try clear f3'
                try clear f4
                try clear f5
                try clear f6
                go_quiet (fail)
                go_wp2_with fail
                go_ret
                exact ⟨rfl, below_dn HB4.out nq⟩
              | ok l3 =>
                have f3' : (0 : Nat) = c3 := e3
                rcases step_small (parse_one HNa.out p1) with rfl | ⟨d1, rfl⟩
                · have f4 : n1 = 0 := e4.symm
                  clear p1 p2 p3 e1 e2 e3 e4 e5 e6
                  have gc1 : ((c1 : Int) != 0) = false := by rw [bne_eq_false_iff_eq]; omega
                  have gd1 : ((c1 : Int) == 0) = true := beq_iff_eq.2 (by omega)
                  have gc2 : ((c2 : Int) != 0) = false := by rw [bne_eq_false_iff_eq]; omega
                  have gd2 : ((c2 : Int) == 0) = true := beq_iff_eq.2 (by omega)
                  have gc3 : ((c3 : Int) != 0) = false := by rw [bne_eq_false_iff_eq]; omega
                  have gd3 : ((c3 : Int) == 0) = true := beq_iff_eq.2 (by omega)
                  have gn1 : ((n1 : Int) == 0) = true := beq_iff_eq.2 (by omega)
                  clear HD4 HE4 HF4
                  try clear f1
                  try clear f2
                  try clear f3
                  try clear f1'
                  try clear f2'
                  try clear f3'
                  try clear f4
                  try clear f5
                  try clear f6
                  go_quiet (fail)
                  go_wp2_with fail
                  go_ret
                  exact ⟨rfl, below_dn HB4.out nq⟩
                · have f4 : n1 = 1 := e4.symm
                  rcases step_small (parse_one HNb.out p2) with rfl | ⟨d2, rfl⟩
                  · have f5 : n2 = 0 := e5.symm
                    clear p1 p2 p3 e1 e2 e3 e4 e5 e6
                    have gc1 : ((c1 : Int) != 0) = false := by rw [bne_eq_false_iff_eq]; omega
                    have gd1 : ((c1 : Int) == 0) = true := beq_iff_eq.2 (by omega)
                    have gc2 : ((c2 : Int) != 0) = false := by rw [bne_eq_false_iff_eq]; omega
                    have gd2 : ((c2 : Int) == 0) = true := beq_iff_eq.2 (by omega)
                    have gc3 : ((c3 : Int) != 0) = false := by rw [bne_eq_false_iff_eq]; omega
                    have gd3 : ((c3 : Int) == 0) = true := beq_iff_eq.2 (by omega)
                    have gn1 : ((n1 : Int) == 0) = false := beq_eq_false_iff_ne.2 (by omega)
                    have gn2 : ((n2 : Int) == 0) = true := beq_iff_eq.2 (by omega)
                    clear HD4 HE4 HF4
                    try clear f1
                    try clear f2
                    try clear f3
                    try clear f1'
                    try clear f2'
                    try clear f3'
                    try clear f4
                    try clear f5
                    try clear f6
                    go_quiet (fail)
                    go_wp2_with fail
                    go_ret
                    exact ⟨rfl, below_dn HB4.out nq⟩
                  · have f5 : n2 = 1 := e5.symm
                    have HL3 := Lib.hid (splits_two HNa.out HNb.out p1 p2 p3)
                    have HM1 := Lib.hid ((parseP_mod p1).2 d1 (by simp))
                    have HM2 := Lib.hid ((parseP_mod p2).2 d2 (by simp))
                    have HN3 := Lib.hid (show l3.length = n3 from e6)
                    obtain ⟨p', c', ep, _, hA⟩ := HD4.out
                    simp only [Value.slice.injEq] at ep
                    obtain ⟨rfl, -, rfl⟩ := ep
                    obtain ⟨g, o, vx, rfl, hg, hx, hy, hz⟩ := hA 0 d1 rfl
                    obtain ⟨p'', c'', ep, _, hB⟩ := HE4.out
                    simp only [Value.slice.injEq] at ep
                    obtain ⟨rfl, -, rfl⟩ := ep
                    obtain ⟨g', o', vy, rfl, hg', hx', hy', hz'⟩ := hB 0 d2 rfl
                    simp only [Nat.zero_mul, Nat.add_zero] at hx hy hx' hy'
                    have i4 : (0 : Int) < (n1 : Int) := by omega
                    have i5 : (0 : Int) < (n2 : Int) := by omega
                    have i4' : 0 < n1 := by omega
                    have i5' : 0 < n2 := by omega
                    clear p1 p2 p3 e1 e2 e3 e4 e5 e6 hA hB
                    obtain ⟨xn, xv⟩ := d1
                    obtain ⟨yn, yv⟩ := d2
                    simp only at hx hx' HL3 hz hz'
                    by_cases hxy : xn = yn
                    · subst hxy
                      have gs : (xn.toList == xn.toList) = true := by simp
                      have gc1 : ((c1 : Int) != 0) = false := by rw [bne_eq_false_iff_eq]; omega
                      have gd1 : ((c1 : Int) == 0) = true := beq_iff_eq.2 (by omega)
                      have gc2 : ((c2 : Int) != 0) = false := by rw [bne_eq_false_iff_eq]; omega
                      have gd2 : ((c2 : Int) == 0) = true := beq_iff_eq.2 (by omega)
                      have gc3 : ((c3 : Int) != 0) = false := by rw [bne_eq_false_iff_eq]; omega
                      have gd3 : ((c3 : Int) == 0) = true := beq_iff_eq.2 (by omega)
                      have gn1 : ((n1 : Int) == 0) = false := beq_eq_false_iff_ne.2 (by omega)
                      have gn2 : ((n2 : Int) == 0) = false := beq_eq_false_iff_ne.2 (by omega)
                      clear HD4 HE4 HF4
                      try clear f1
                      try clear f2
                      try clear f3
                      try clear f1'
                      try clear f2'
                      try clear f3'
                      try clear f4
                      try clear f5
                      try clear f6
                      go_quiet (fail)
                      go_wp2_with fail
                      go_ret
                      exact ⟨rfl, below_dn HB4.out nq⟩
                    · have gs : (xn.toList == yn.toList) = false := beq_eq_false_iff_ne.2 fun h => hxy (toList_inj h)
                      have gc1 : ((c1 : Int) != 0) = false := by rw [bne_eq_false_iff_eq]; omega
                      have gd1 : ((c1 : Int) == 0) = true := beq_iff_eq.2 (by omega)
                      have gc2 : ((c2 : Int) != 0) = false := by rw [bne_eq_false_iff_eq]; omega
                      have gd2 : ((c2 : Int) == 0) = true := beq_iff_eq.2 (by omega)
                      have gc3 : ((c3 : Int) != 0) = false := by rw [bne_eq_false_iff_eq]; omega
                      have gd3 : ((c3 : Int) == 0) = true := beq_iff_eq.2 (by omega)
                      have gn1 : ((n1 : Int) == 0) = false := beq_eq_false_iff_ne.2 (by omega)
                      have gn2 : ((n2 : Int) == 0) = false := beq_eq_false_iff_ne.2 (by omega)
                      have hl3 := HL3.out hxy
                      subst hl3
                      have z1 := HZ4.out.cell 1 rfl
                      have hz3 : n3 = 2 := HN3.out.symm
                      subst hz3
                      have HZ := Lib.hid hz
                      have HZ' := Lib.hid hz'
                      obtain ⟨q, cq, rfl, _⟩ := hz
                      obtain ⟨q', cq', rfl, _⟩ := hz'
                      have HMD := Lib.hid (show Mod [(xn, xv), (yn, yv)] from mod_of ⟨by simp, by
                        have h1 : xv.length ≤ 64 := HM1.out
                        have h2 : yv.length ≤ 64 := HM2.out
                        intro x hx
                        simp only [List.mem_cons, List.mem_nil_iff, or_false] at hx
                        rcases hx with rfl | rfl <;> assumption⟩)
                      have HSM := Lib.hid (fun (W : World) (h : Below V.heap.size V W) => same14_is (.slice q3 2 k3) (.slice (some ⟨W.heap.size, 0, none⟩) 2 2) [(xn, xv), (yn, yv)] [(xn, xv), (yn, yv)] false false HMD.out HMD.out (W.alloc (.cells #[.string xn, .slice q xv.length cq, .string yn, .slice q' yv.length cq'] 35)).drew (((HF4.out.to h).to (bnew W _)).to (Below.refl _ _).drew) ((dirs_two (Has.new W _) ((HZ.out.to h).to (bnew W _)) ((HZ'.out.to h).to (bnew W _))).to (Below.refl _ _).drew) true (by rw [sameP_rep]; simp))
                      clear HL3 HN3 hxy f1' f2' f3' f4 f5
                      go_quiet (fail)
                      go_wp2_with fail
                      have hbq := below_dn (Below.refl V.heap.size V) nq
                      generalize V.drewN nq = U at *
                      have HBU := Lib.hid hbq
                      have HD := Lib.hid (show Below V.heap.size V U.drew from hbq.drew)
                      have x0 := (hbq.cell (p := ⟨w2.heap.size, 0, none⟩) HX4.out.lt).trans x0
                      have y0 := (hbq.cell (p := ⟨w3.heap.size, 0, none⟩) HY4.out.lt).trans y0
                      have z0 := (hbq.cell (p := ⟨w4.heap.size, 0, none⟩) HZ4.out.lt).trans z0
                      have z1 := (hbq.cell (p := ⟨w4.heap.size, 1, none⟩) HZ4.out.lt).trans z1
                      have hx := (hbq.cell (p := ⟨g, o, none⟩) hg).trans hx
                      have hy := (hbq.cell (p := ⟨g, o + 1, none⟩) hg).trans hy
                      have hx' := (hbq.cell (p := ⟨g', o', none⟩) hg').trans hx'
                      have hy' := (hbq.cell (p := ⟨g', o' + 1, none⟩) hg').trans hy'
                      have zz0 := (World.cell?_alloc_past (w := U) (.cells #[.string xn, .slice q xv.length cq, .string yn, .slice q' yv.length cq'] 35) w4.heap.size 0 (Nat.lt_of_lt_of_le HZ4.out.lt hbq.size)).trans z0
                      have zz1 := (World.cell?_alloc_past (w := U) (.cells #[.string xn, .slice q xv.length cq, .string yn, .slice q' yv.length cq'] 35) w4.heap.size 1 (Nat.lt_of_lt_of_le HZ4.out.lt hbq.size)).trans z1
                      have HZL := Lib.hid (And.intro (Nat.lt_of_lt_of_le HZ4.out.lt hbq.size) hbq.size)
                      clear hbq
                      go_region_law (first
                        | (go_simp; refine (HSM.out _ HBU.out).mono ?_; rintro e w5 ⟨rfl, hb5⟩))
                      all_goals
                        go_wp2
                        go_ret
                        exact ⟨rfl, HB4.out.trans ((((HBU.out.alloc HBU.out.size _).drew).trans (hb5.mono (by have := HBU.out.size; simp; omega))).mono HB4.out.size)⟩
                      
end Go.Proofs.YtempmmkdppelaaaGreatDoor
