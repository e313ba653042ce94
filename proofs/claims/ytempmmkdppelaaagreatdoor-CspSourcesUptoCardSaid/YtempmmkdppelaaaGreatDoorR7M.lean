/-
  The document's Text.
-/
import Derived.Test.YtempmmkdppelaaaGreatDoorR6M
namespace Go.Proofs.YtempmmkdppelaaaGreatDoor
open Go.RowKit
theorem ba_app (A : List UInt8) (x : ByteArray) : (⟨A.toArray⟩ : ByteArray) ++ x = ⟨(A ++ x.data.toList).toArray⟩ := by
  apply ByteArray.ext
  rw [ByteArray.data_append]
  apply Array.toList_inj.1
  simp
set_option maxHeartbeats 4000000 in
set_option maxRecDepth 100000 in
theorem rtext_is (v : Value) (l : List Dir) (rep : Bool) (T : List UInt8) (r : Int) (hr : (okP l ∧ r = 0 ∧ txtL l = T) ∨ (¬ okP l ∧ r = 20 ∧ T = [])) (hT : T.length ≤ 1099511627776) (hm : l.length ≤ 4294967296) (hz : Small l) (w : World) (hv : Dirs w v l) :
    Calls Tryz.prog 15 #[.agg #[v, .bool rep]] w fun e w' => e = .returned (.tuple #[.string ⟨T.toArray⟩, .int .i64 r]) ∧ Below w.heap.size w w' := by
  have hv' := hv
  obtain ⟨p, cap, rfl, hcap, hA⟩ := hv
  obtain ⟨n, hn⟩ : ∃ n, l.length = n := ⟨_, rfl⟩
  have HN := Lib.hid hn
  have HZ := Lib.hid hz
  obtain ⟨X, hX⟩ : ∃ X, w.alloc (.cells #[.slice p n cap, .bool rep] 25) = X := ⟨_, rfl⟩
  have hB0 : Below w.heap.size w X := hX ▸ bnew w _
  have HB0 := Lib.hid hB0
  have HVX := Lib.hid (hv'.to hB0)
  have hXb : Has X w.heap.size (.cells #[.slice p n cap, .bool rep] 25) := hX ▸ Has.new w _
  have HXB := Lib.hid hXb
  have y0 := hXb.cell 0 rfl
  have y1 := hXb.cell 1 rfl
  have hsX : w.heap.size < X.heap.size := hXb.lt
  have HCK := Lib.hid (fun r' h => rcheck_is (.slice p l.length cap) l rep r' h hm hz X (hv'.to hB0))
  rw [hn] at hm hcap HVX HCK ⊢
  clear hv' hA hz hB0 hXb
  by_cases hok : okP l
  · have hT0 : txtL l = T ∧ r = 0 := by
      rcases hr with ⟨_, h1, h2⟩ | ⟨h, _⟩
      · exact ⟨h2, h1⟩
      · exact absurd hok h
    obtain ⟨hT1, rfl⟩ := hT0
    have HT := Lib.hid hT1
    have HC := Lib.hid (HCK.out 0 (.inl ⟨hok, rfl⟩))
    clear hr hT1 HCK hok hn
    go_enter Tryz.func15, Tryz.ntmps15
    go_wp2_with fail
    refine HC.out.mono ?_
    rintro e w1 ⟨rfl, hb1⟩
    have HB1 := Lib.hid hb1
    have z0 := (HXB.out.to hb1).cell 0 rfl
    clear hb1 y0 y1
    go_wp2_with fail
    go_loopw [5, 18] (fun s i wr => ∃ k : Nat, k ≤ n ∧ i = .int .i64 k ∧ s = .string ⟨(txtL (l.take k)).toArray⟩ ∧ Hid (Below w1.heap.size w1 wr)) (fun _ i _ => n - (intOf i).toNat)
    case atStart => exact ⟨0, by omega, rfl, rfl, Lib.hid (Below.refl _ _)⟩
    case round =>
      obtain ⟨wo, hwo⟩ : ∃ wo, wo = wr := ⟨_, rfl⟩
      subst hwo
      obtain ⟨k, hk, rfl, rfl, HB⟩ := hrel
      have hszo := HB.out.size
      by_cases hlt : k < n
      · have hkl : k < l.length := by rw [HN.out]; exact hlt
        have i1 : (k : Int) < (n : Int) := by omega
        obtain ⟨p', cap', hp', _, hcc⟩ := HVX.out.to (HB1.out.trans (HB.out.mono HB1.out.size))
        simp only [Value.slice.injEq] at hp'
        obtain ⟨rfl, -, rfl⟩ := hp'
        obtain ⟨g, o, vs, rfl, hg, hx, hy, hzv⟩ := hcc k l[k] (getT hkl)
        have HSN := Lib.hid (show txtL (l.take (k + 1)) = (if l.take k = [] then [] else txtL (l.take k) ++ [59, 32]) ++ dirT l[k] by rw [List.take_succ_eq_append_getElem hkl, txtL_snoc])
        have hT1 := txtL_le l (k + 1)
        rw [HT.out, HSN.out, List.length_append] at hT1
        obtain ⟨q2, c2, hvs, hvc⟩ := hzv
        have HZB := Lib.hid (HZ.out _ (List.getElem_mem hkl))
        obtain ⟨P, hP⟩ : ∃ P, (if l.take k = [] then [] else txtL (l.take k) ++ [59, 32]) = P := ⟨_, rfl⟩
        rw [hP] at HSN hT1
        have HNIL := Lib.hid (show (k = 0 ∧ P = txtL (l.take k)) ∨ (0 < k ∧ P = txtL (l.take k) ++ [59, 32]) from by
          cases k with
          | zero => exact .inl ⟨rfl, by rw [← hP]; simp [txtL]⟩
          | succ k => exact .inr ⟨by omega, by rw [← hP, if_neg (fun e => by have := congrArg List.length e; rw [List.length_take_of_le (by omega)] at this; simp at this)]⟩)
        clear hcc hP
        obtain ⟨T0, hT0⟩ : ∃ T0, txtL (l.take k) = T0 := ⟨_, rfl⟩
        rw [hT0] at HNIL ⊢
        obtain ⟨T1, hT1e⟩ : ∃ T1, txtL (l.take (k + 1)) = T1 := ⟨_, rfl⟩
        rw [hT1e] at HSN
        have HT1 := Lib.hid hT1e
        clear hT1e hT0
        generalize l[k] = f at *
        obtain ⟨a, b⟩ := f
        subst hvs
        have hx3 : wo.cell? ⟨g, o + k * 2, none⟩ = some (.string a) := hx
        have hy3 : wo.cell? ⟨g, o + k * 2 + 1, none⟩ = some (.slice q2 b.length c2) := hy
        clear hx hy
        have HVC := Lib.hid hvc
        have HSN2 := Lib.hid (show T1 = P ++ a.data.toList ++ b.flatMap (fun v => 32 :: v.data.toList) by rw [HSN.out]; unfold dirT; simp)
        have HPL := Lib.hid (show P.length + a.size + (b.flatMap (fun v => 32 :: v.data.toList)).length ≤ 1099511627776 by
          simp only [dirT, List.length_append, len_list] at hT1; omega)
        have hbl := HZB.out.2.1
        simp only at hbl
        clear hT1 hvc HSN
        obtain ⟨X7, hX7⟩ : ∃ X7, wo.alloc (.cells #[.string a, .slice q2 b.length c2] 35) = X7 := ⟨_, rfl⟩
        have hb7 : Below wo.heap.size wo X7 := hX7 ▸ bnew wo _
        have h7 : Has X7 wo.heap.size (.cells #[.string a, .slice q2 b.length c2] 35) := hX7 ▸ Has.new wo _
        have HK7 := Lib.hid h7
        have z2 := h7.cell 0 rfl
        have z3 := h7.cell 1 rfl
        have HBA7 := Lib.hid (show Below w1.heap.size w1 X7 from HB.out.trans (hb7.mono hszo))
        have HB7 := Lib.hid hb7
        clear h7 hb7
        rcases HNIL.out with ⟨hk0, hP0⟩ | ⟨hk0, hP0⟩
        · subst hk0
          have hx4 : wo.cell? ⟨g, o, none⟩ = some (.string a) := by simpa using hx3
          have hy4 : wo.cell? ⟨g, o + 1, none⟩ = some (.slice q2 b.length c2) := by simpa using hy3
          have HIN := Lib.hid (show T0 ++ a.data.toList ++ (b.take 0).flatMap (fun v => 32 :: v.data.toList) = T0 ++ a.data.toList by simp)
          have g1 : ¬ 9223372036854775807 < T0.length + a.size := by have := HPL.out; rw [hP0] at this; (try rw [List.length_append] at this); (try simp only [List.length_cons, List.length_nil] at this); omega
          go_wp2_with fail
          go_loopw [5, 34] (fun s i w3 => ∃ j : Nat, j ≤ b.length ∧ i = .int .i64 j ∧ s = .string ⟨(P ++ a.data.toList ++ (b.take j).flatMap (fun v => 32 :: v.data.toList)).toArray⟩ ∧ Hid (Below X7.heap.size X7 w3)) (fun _ i _ => b.length - (intOf i).toNat)
          case atStart => exact ⟨0, by omega, rfl, by rw [hP0, HIN.out]; simp only [ba_app], Lib.hid (Below.refl _ _)⟩
          case round =>
            obtain ⟨w3, hw3⟩ : ∃ w3, w3 = wr := ⟨_, rfl⟩
            subst hw3
            obtain ⟨j, hj, rfl, rfl, HB3⟩ := hrel
            have hs3 := HB3.out.size
            by_cases hjb : j < b.length
            · have i4 : (j : Int) < (b.length : Int) := by omega
              obtain ⟨g5, o5, rfl, hg5, hx5⟩ := HVC.out j b[j] (getT hjb)
              have hx6 := ((HB7.out.trans (HB3.out.mono HB7.out.size)).cell (p := ⟨g5, o5 + j, none⟩) hg5).trans hx5
              have hVS := vals_snoc b j hjb
              have hF := flat_le (fun v : ByteArray => 32 :: v.data.toList) b (j + 1)
              have hPL := HPL.out
              have HNX := Lib.hid (show P ++ a.data.toList ++ (b.take (j + 1)).flatMap (fun v => 32 :: v.data.toList) = P ++ a.data.toList ++ (b.take j).flatMap (fun v => 32 :: v.data.toList) ++ (32 :: b[j].data.toList) by rw [hVS]; simp)
              obtain ⟨S, hS⟩ : ∃ S, P ++ a.data.toList ++ (b.take j).flatMap (fun v => 32 :: v.data.toList) = S := ⟨_, rfl⟩
              have hSl : S.length + (1 + b[j].size) ≤ 1099511627776 := by
                rw [hVS] at hF
                rw [← hS]
                simp only [List.length_append, List.length_cons, List.length_nil, len_list] at hF ⊢
                omega
              rw [hS] at HNX ⊢
              clear hS hVS hF hPL hx5
              generalize b[j] = x at *
              have g3 : ¬ 9223372036854775807 < S.length + (1 + x.size) := by omega
              have g4 : ¬ 9223372036854775807 < 1 + x.size := by omega
              go_wp2_with fail
              go_roundw
              case rel => exact ⟨j + 1, by omega, by go_num, by rw [HNX.out, show (⟨#[32]⟩ : ByteArray) ++ x = ⟨(32 :: x.data.toList).toArray⟩ from ba_app [32] x, ba_app], HB3⟩
              case measure => simp [intOf]; omega
            · have i4 : ¬ (j : Int) < (b.length : Int) := by omega
              have HJ := Lib.hid (show P ++ a.data.toList ++ (b.take j).flatMap (fun v => 32 :: v.data.toList) = txtL (l.take (0 + 1)) by rw [HT1.out, HSN2.out, show j = b.length by omega, List.take_length])
              rw [HJ.out]
              go_wp2
              go_roundw
              case rel => exact ⟨0 + 1, by omega, by go_num, rfl, Lib.hid (HBA7.out.trans (HB3.out.mono HBA7.out.size))⟩
              case measure => simp [intOf]; omega
        · have hk1 : (0 : Int) < (k : Int) := by omega
          have hd1 : decide ((0 : Int) < (k : Int)) = true := decide_eq_true hk1
          have hd2 : decide (0 < k) = true := decide_eq_true hk0
          have HIN := Lib.hid (show (T0 ++ [59, 32]) ++ a.data.toList ++ (b.take 0).flatMap (fun v => 32 :: v.data.toList) = (T0 ++ [59, 32]) ++ a.data.toList by simp)
          have g1 : ¬ 9223372036854775807 < T0.length + 2 + a.size := by have := HPL.out; rw [hP0] at this; (try rw [List.length_append] at this); (try simp only [List.length_cons, List.length_nil] at this); omega
          have g2 : ¬ 9223372036854775807 < T0.length + 2 := by omega
          go_wp2_with fail
          go_loopw [5, 34] (fun s i w3 => ∃ j : Nat, j ≤ b.length ∧ i = .int .i64 j ∧ s = .string ⟨(P ++ a.data.toList ++ (b.take j).flatMap (fun v => 32 :: v.data.toList)).toArray⟩ ∧ Hid (Below X7.heap.size X7 w3)) (fun _ i _ => b.length - (intOf i).toNat)
          case atStart => exact ⟨0, by omega, rfl, by rw [hP0, HIN.out]; simp only [ba_app], Lib.hid (Below.refl _ _)⟩
          case round =>
            obtain ⟨w3, hw3⟩ : ∃ w3, w3 = wr := ⟨_, rfl⟩
            subst hw3
            obtain ⟨j, hj, rfl, rfl, HB3⟩ := hrel
            have hs3 := HB3.out.size
            by_cases hjb : j < b.length
            · have i4 : (j : Int) < (b.length : Int) := by omega
              obtain ⟨g5, o5, rfl, hg5, hx5⟩ := HVC.out j b[j] (getT hjb)
              have hx6 := ((HB7.out.trans (HB3.out.mono HB7.out.size)).cell (p := ⟨g5, o5 + j, none⟩) hg5).trans hx5
              have hVS := vals_snoc b j hjb
              have hF := flat_le (fun v : ByteArray => 32 :: v.data.toList) b (j + 1)
              have hPL := HPL.out
              have HNX := Lib.hid (show P ++ a.data.toList ++ (b.take (j + 1)).flatMap (fun v => 32 :: v.data.toList) = P ++ a.data.toList ++ (b.take j).flatMap (fun v => 32 :: v.data.toList) ++ (32 :: b[j].data.toList) by rw [hVS]; simp)
              obtain ⟨S, hS⟩ : ∃ S, P ++ a.data.toList ++ (b.take j).flatMap (fun v => 32 :: v.data.toList) = S := ⟨_, rfl⟩
              have hSl : S.length + (1 + b[j].size) ≤ 1099511627776 := by
                rw [hVS] at hF
                rw [← hS]
                simp only [List.length_append, List.length_cons, List.length_nil, len_list] at hF ⊢
                omega
              rw [hS] at HNX ⊢
              clear hS hVS hF hPL hx5
              generalize b[j] = x at *
              have g3 : ¬ 9223372036854775807 < S.length + (1 + x.size) := by omega
              have g4 : ¬ 9223372036854775807 < 1 + x.size := by omega
              go_wp2_with fail
              go_roundw
              case rel => exact ⟨j + 1, by omega, by go_num, by rw [HNX.out, show (⟨#[32]⟩ : ByteArray) ++ x = ⟨(32 :: x.data.toList).toArray⟩ from ba_app [32] x, ba_app], HB3⟩
              case measure => simp [intOf]; omega
            · have i4 : ¬ (j : Int) < (b.length : Int) := by omega
              have HJ := Lib.hid (show P ++ a.data.toList ++ (b.take j).flatMap (fun v => 32 :: v.data.toList) = txtL (l.take (k + 1)) by rw [HT1.out, HSN2.out, show j = b.length by omega, List.take_length])
              rw [HJ.out]
              go_wp2
              go_roundw
              case rel => exact ⟨k + 1, by omega, by go_num, rfl, Lib.hid (HBA7.out.trans (HB3.out.mono HBA7.out.size))⟩
              case measure => simp [intOf]; omega
      · have i1 : ¬ (k : Int) < (n : Int) := by omega
        have HE := Lib.hid (show txtL (l.take k) = T by rw [show k = l.length by have := HN.out; omega, List.take_length]; exact HT.out)
        go_wp2
        go_ret2
        exact ⟨show Ending.returned (.tuple #[.string ⟨(txtL (l.take k)).toArray⟩, .int .i64 0]) = _ from by rw [HE.out], HB0.out.trans ((HB1.out.trans (HB.out.mono HB1.out.size)).mono (by omega))⟩
  · have hT0 : T = [] ∧ r = 20 := by
      rcases hr with ⟨h, _⟩ | ⟨_, h1, h2⟩
      · exact absurd h hok
      · exact ⟨h2, h1⟩
    obtain ⟨rfl, rfl⟩ := hT0
    have HC := Lib.hid (HCK.out 20 (.inr ⟨hok, rfl⟩))
    clear hr HCK hok hn
    go_enter Tryz.func15, Tryz.ntmps15
    go_wp2_with fail
    refine HC.out.mono ?_
    rintro e w1 ⟨rfl, hb1⟩
    have HB1 := Lib.hid hb1
    clear hb1
    go_wp2
    go_ret2
    exact ⟨rfl, HB0.out.trans (HB1.out.mono (by omega))⟩
end Go.Proofs.YtempmmkdppelaaaGreatDoor
