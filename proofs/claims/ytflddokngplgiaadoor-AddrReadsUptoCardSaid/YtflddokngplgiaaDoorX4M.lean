import Derived.Test.YtflddokngplgiaaDoorX3M
namespace Go.Proofs.YtflddokngplgiaaDoor
open Go.RowKit
theorem zr_at {l : List Nat} {k : Nat} (h : k < l.length) : (l[k] = 0 → zr (l.drop k) = zr (l.drop (k + 1)) + 1) ∧ (¬ l[k] = 0 → zr (l.drop k) = 0) := by
  rw [List.drop_eq_getElem_cons h]
  exact ⟨fun e => by rw [e, zr_zero], fun e => zr_not _ e⟩
theorem zr_end {l : List Nat} {k : Nat} (h : l.length ≤ k) : zr (l.drop k) = 0 := by rw [List.drop_eq_nil_of_le h]; rfl
/-- what is written when place t is reached -/
def outAt (l : List Nat) (s1 b t : Nat) : List UInt8 := if s1 = 0 ∨ t < s1 then txtP (l.take t) else txtP (l.take (s1 - 1)) ++ [58, 58] ++ txtP ((l.take t).drop (s1 - 1 + b))
theorem txtP_snoc (p : List Nat) (y : Nat) : txtP (p ++ [y]) = (if p = [] then [] else txtP p ++ [58]) ++ hexD y := by
  unfold txtP
  by_cases h : p = []
  · subst h; rfl
  · rw [if_neg h, List.map_append, List.map_cons, List.map_nil, joinC_snoc 58 _ _ (by simpa using h)]; simp
theorem hexD_last (y : Nat) : ∃ r c, hexD y = r ++ [c] ∧ ¬ c = 58 := by
  obtain ⟨r, c, h, hm⟩ := snoc_of_ne (hexD_ne y)
  exact ⟨r, c, h, hexD_all (fun b => b ≠ 58) (fun d hd => (dv_hd hd).2.2.1) y c hm⟩
theorem txtP_last {p : List Nat} (h : p ≠ []) : ∃ r c, txtP p = r ++ [c] ∧ ¬ c = 58 := by
  have e : p = p.dropLast ++ [p.getLast h] := (List.dropLast_concat_getLast h).symm
  obtain ⟨r, c, hr, hc⟩ := hexD_last (p.getLast h)
  exact ⟨(if p.dropLast = [] then [] else txtP p.dropLast ++ [58]) ++ r, c, by rw [e, txtP_snoc, hr]; simp [List.append_assoc], hc⟩
theorem out_next {l : List Nat} {s1 b t : Nat} (ht : t < l.length) (hs : s1 = 0 ∨ t + 1 < s1 ∨ 1 ≤ s1 ∧ s1 - 1 + b ≤ t) (hb : 1 ≤ b) :
    (outAt l s1 b t = [] ∧ outAt l s1 b (t + 1) = hexD l[t]) ∨
    (∃ r, outAt l s1 b t = r ++ [58] ∧ outAt l s1 b (t + 1) = outAt l s1 b t ++ hexD l[t]) ∨
    (∃ r c, outAt l s1 b t = r ++ [c] ∧ ¬ c = 58 ∧ outAt l s1 b (t + 1) = outAt l s1 b t ++ [58] ++ hexD l[t]) := by
  have htk : l.take (t + 1) = l.take t ++ [l[t]] := (List.take_append_getElem ht).symm
  by_cases h1 : s1 = 0 ∨ t + 1 < s1
  · have e0 : outAt l s1 b t = txtP (l.take t) := if_pos (by omega)
    have e1 : outAt l s1 b (t + 1) = txtP (l.take (t + 1)) := if_pos h1
    rw [e0, e1, htk, txtP_snoc]
    by_cases h2 : l.take t = []
    · left; rw [h2]; exact ⟨rfl, rfl⟩
    · obtain ⟨r, c, hr, hc⟩ := txtP_last h2
      right; right
      exact ⟨r, c, hr, hc, by rw [if_neg h2]⟩
  · have e0 : outAt l s1 b t = txtP (l.take (s1 - 1)) ++ [58, 58] ++ txtP ((l.take t).drop (s1 - 1 + b)) := if_neg (by omega)
    have e1 : outAt l s1 b (t + 1) = txtP (l.take (s1 - 1)) ++ [58, 58] ++ txtP ((l.take (t + 1)).drop (s1 - 1 + b)) := if_neg (by omega)
    have htd : (l.take (t + 1)).drop (s1 - 1 + b) = (l.take t).drop (s1 - 1 + b) ++ [l[t]] := by
      rw [htk, List.drop_append_of_le_length (by rw [List.length_take]; omega)]
    rw [e0, e1, htd, txtP_snoc]
    by_cases h2 : (l.take t).drop (s1 - 1 + b) = []
    · right; left
      rw [h2]
      exact ⟨txtP (l.take (s1 - 1)) ++ [58], by simp [txtP, joinC], by simp [txtP, joinC]⟩
    · obtain ⟨r, c, hr, hc⟩ := txtP_last h2
      right; right
      exact ⟨txtP (l.take (s1 - 1)) ++ [58, 58] ++ r, c, by rw [hr]; simp, hc, by rw [if_neg h2]; simp⟩
theorem out_start {l : List Nat} {s1 b t : Nat} (hs : t + 1 = s1) (hb : 1 ≤ b) : outAt l s1 b (t + b) = outAt l s1 b t ++ [58, 58] := by
  have e0 : outAt l s1 b t = txtP (l.take t) := if_pos (by omega)
  have e1 : outAt l s1 b (t + b) = txtP (l.take (s1 - 1)) ++ [58, 58] ++ txtP ((l.take (t + b)).drop (s1 - 1 + b)) := if_neg (by omega)
  rw [e0, e1, show s1 - 1 = t by omega, List.drop_eq_nil_of_le (by rw [List.length_take]; omega)]
  simp [txtP, joinC]
theorem out_len {l : List Nat} {s1 b t : Nat} (hl : l.length = 8) (bl : ∀ x ∈ l, x < 65536) : (outAt l s1 b t).length ≤ 100 := by
  have h1 := txtP_len (l.take t) (fun x hx => bl x (List.mem_of_mem_take hx))
  have h2 := txtP_len (l.take (s1 - 1)) (fun x hx => bl x (List.mem_of_mem_take hx))
  have h3 := txtP_len ((l.take t).drop (s1 - 1 + b)) (fun x hx => bl x (List.mem_of_mem_take (List.mem_of_mem_drop hx)))
  have g1 : (l.take t).length ≤ 8 := by rw [List.length_take]; omega
  have g2 : (l.take (s1 - 1)).length ≤ 8 := by rw [List.length_take]; omega
  have g3 : ((l.take t).drop (s1 - 1 + b)).length ≤ 8 := by rw [List.length_drop]; omega
  unfold outAt
  split
  · omega
  · simp only [List.length_append, List.length_cons, List.length_nil]; omega
theorem out_end {l : List Nat} {s1 b : Nat} (hl : l.length = 8) (h : bst l 8 = (s1, b)) : outAt l s1 b 8 = tv6 l := by
  have ht : l.take 8 = l := List.take_of_length_le (by omega)
  rcases bst_lng hl with ⟨h1, h2⟩ | ⟨h1, h2, h3, h4⟩
  · rw [h] at h1
    rw [outAt, if_pos (.inl h1), tv6, h2, if_pos rfl, ht]
  · rw [h] at h1 h2 h3 h4
    simp only at h1 h2 h3 h4
    rw [outAt, if_neg (by omega), tv6, h4, if_neg (by simp only; omega), ht]
theorem last_byte (x : ByteArray) (r : List UInt8) (c : UInt8) (h : x.data.toList = r ++ [c]) (h0 : 0 < x.size) : x[x.size - 1] = c := by
  have hl : x.size = r.length + 1 := by rw [← len_list, h]; simp
  have : x[x.size - 1] = x.data.toList[x.size - 1]'(by rw [len_list]; omega) := rfl
  rw [this]
  simp only [h, hl]
  simp
set_option maxHeartbeats 1000000 in
set_option maxRecDepth 100000 in
theorem refV6_is (l : List Nat) (hl : l.length = 8) (bl : ∀ x ∈ l, x < 65536) (w : World) :
    Calls Tryd.prog 20 #[.agg (A8 l)] w fun e w' => e = .returned (.string ⟨(tv6 l).toArray⟩) ∧ Below w.heap.size w w' := by
  have HL := Lib.hid hl
  have HBL := Lib.hid bl
  have H0 := Lib.hid (Has.new w (.cells (A8 l) 27))
  clear hl bl
  go_enter Tryd.func20, Tryd.ntmps20
  go_wp2_with fail
  go_loopw [3, 4, 5] (fun v3 v4 v5 wr => ∃ (k s1 b : Nat) (S : Int), v3 = .int .i64 S ∧ v4 = .int .i64 b ∧ v5 = .int .i64 k ∧ k ≤ 8 ∧ b ≤ 8 ∧ Hid ((s1 : Int) - 1 = S ∧ bst l k = (s1, b)) ∧ Hid (Has wr w.heap.size (.cells (A8 l) 27)) ∧ Hid (Below w.heap.size w wr)) (fun _ _ i _ => 8 - (intOf i).toNat)
  case atStart => exact ⟨0, 0, 1, -1, rfl, rfl, rfl, by omega, by omega, Lib.hid ⟨rfl, rfl⟩, H0, Lib.hid (bnew _ _)⟩
  case round =>
    obtain ⟨k, s1, b, S, rfl, rfl, rfl, hk, hb, HS, HH, HB⟩ := hrel
    by_cases hk8 : k < 8
    · have h1 : decide ((k : Int) < 8) = true := by rw [decide_eq_true_iff]; omega
      go_wp2_with fail
      go_loopw [6] (fun v6 wr => ∃ m : Nat, v6 = .int .i64 m ∧ k + m ≤ 8 ∧ Hid (zr (l.drop k) = m + zr (l.drop (k + m))) ∧ Hid (Has wr w.heap.size (.cells (A8 l) 27)) ∧ Hid (Below w.heap.size w wr)) (fun n _ => 8 - (intOf n).toNat)
      case atStart => exact ⟨0, rfl, by omega, Lib.hid (by simp), HH, HB⟩
      case round =>
        obtain ⟨m, rfl, hm, HZ, HH2, HB2⟩ := hrel
        obtain ⟨j, hj⟩ : ∃ j, k + m = j := ⟨_, rfl⟩
        have kf : IntKind.i64.wrap ((k : Int) + (m : Int)) = (j : Int) := by rw [← hj]; exact IntWalk.i64_in _ (by omega)
        by_cases hj8 : j < 8
        · have hjl : j < l.length := by rw [HL.out]; exact hj8
          obtain ⟨y, hy⟩ : ∃ y, l[j] = y := ⟨_, rfl⟩
          have c0 : wr.cell? ⟨w.heap.size, j, none⟩ = some (.int .u16 y) := HH2.out.cell j (by simp [A8, hjl, hy])
          have h2 : decide ((j : Int) < 8) = true := by rw [decide_eq_true_iff]; omega
          have HJ := Lib.hid hj
          have HY := Lib.hid hy
          have hm8 : m < 8 := by omega
          clear hj hy
          by_cases hy0 : y = 0
          · subst hy0
            have HZ2 := Lib.hid (show zr (l.drop k) = (m + 1) + zr (l.drop (k + (m + 1))) by
              have e := HJ.out; subst e
              have h3 := (zr_at hjl).1 HY.out
              have h4 := HZ.out
              rw [show k + (m + 1) = k + m + 1 from rfl]; omega)
            have hm9 : k + (m + 1) ≤ 8 := by have := HJ.out; omega
            go_wp2_with fail
            go_roundw
            case rel => exact ⟨m + 1, by go_num, hm9, HZ2, HH2, HB2⟩
            case measure => simp [intOf]; omega
          · have hyb : ((y : Int) == 0) = false := by rw [beq_eq_false_iff_ne]; omega
            have HE := Lib.hid (show zr (l.drop (k + m)) = 0 by
              have e := HJ.out; subst e
              exact (zr_at hjl).2 (by rw [HY.out]; exact hy0))
            have HM := Lib.hid (show zr (l.drop k) = m by have := HZ.out; have := HE.out; omega)
            by_cases hmb : b < m
            · have hmd : decide (b < m) = true := by simpa using hmb
              go_wp2_with fail
              go_roundw
              case rel => exact ⟨k + 1, k + 1, m, (k : Int), by go_num, rfl, by go_num, by omega, by omega, Lib.hid ⟨by omega, by rw [bst_yes (by rw [HS.out.2, HM.out]; exact hmb), HM.out]⟩, HH2, HB2⟩
              case measure => simp [intOf]; omega
            · have hmd : decide (b < m) = false := by simpa using hmb
              go_wp2_with fail
              go_roundw
              case rel => exact ⟨k + 1, s1, b, S, by go_num, rfl, by go_num, by omega, by omega, Lib.hid ⟨HS.out.1, by rw [bst_no (by rw [HS.out.2, HM.out]; exact hmb), HS.out.2]⟩, HH2, HB2⟩
              case measure => simp [intOf]; omega
        · have h2 : decide ((j : Int) < 8) = false := by rw [decide_eq_false_iff_not]; omega
          have HE := Lib.hid (show zr (l.drop (k + m)) = 0 from zr_end (by rw [HL.out, hj]; omega))
          clear hj
          have HM := Lib.hid (show zr (l.drop k) = m by have := HZ.out; have := HE.out; omega)
          by_cases hmb : b < m
          · have hmd : decide (b < m) = true := by simpa using hmb
            go_wp2_with fail
            go_roundw
            case rel => exact ⟨k + 1, k + 1, m, (k : Int), by go_num, rfl, by go_num, by omega, by omega, Lib.hid ⟨by omega, by rw [bst_yes (by rw [HS.out.2, HM.out]; exact hmb), HM.out]⟩, HH2, HB2⟩
            case measure => simp [intOf]; omega
          · have hmd : decide (b < m) = false := by simpa using hmb
            go_wp2_with fail
            go_roundw
            case rel => exact ⟨k + 1, s1, b, S, by go_num, rfl, by go_num, by omega, by omega, Lib.hid ⟨HS.out.1, by rw [bst_no (by rw [HS.out.2, HM.out]; exact hmb), HS.out.2]⟩, HH2, HB2⟩
            case measure => simp [intOf]; omega
    · have h1 : decide ((k : Int) < 8) = false := by rw [decide_eq_false_iff_not]; omega
      have HS8 := Lib.hid (show (s1 : Int) - 1 = S ∧ bst l 8 = (s1, b) from ⟨HS.out.1, by rw [← show k = 8 by omega]; exact HS.out.2⟩)
      have HBI := Lib.hid (show 1 ≤ b by have h := (bst_is l 8).2.1; rw [HS8.out.2] at h; exact h)
      have HBE := Lib.hid (show 1 ≤ s1 → s1 - 1 + b ≤ 8 by
        intro h5
        rcases bst_lng HL.out with ⟨h, _⟩ | ⟨_, _, h, _⟩ <;> rw [HS8.out.2] at h <;> simp only at h <;> omega)
      go_wp2_with fail
      go_loopw [7, 8] (fun v7 v8 wr => ∃ (t : Nat) (x : ByteArray), v7 = .string x ∧ v8 = .int .i64 t ∧ t ≤ 8 ∧ Hid (x.data.toList = outAt l s1 b t ∧ (s1 = 0 ∨ t < s1 ∨ 1 ≤ s1 ∧ s1 - 1 + b ≤ t)) ∧ Hid (Has wr w.heap.size (.cells (A8 l) 27)) ∧ Hid (Below w.heap.size w wr)) (fun _ i _ => 8 - (intOf i).toNat)
      case atStart => exact ⟨0, _, rfl, rfl, by omega, Lib.hid ⟨by unfold outAt; rw [if_pos (by omega)]; rfl, by omega⟩, HH, HB⟩
      case round =>
        obtain ⟨t, x, rfl, rfl, ht, HX, HH2, HB2⟩ := hrel
        have hx : x.size ≤ 100 := by rw [← len_list, HX.out.1]; exact out_len HL.out HBL.out
        by_cases ht8 : t < 8
        · have h2 : decide ((t : Int) < 8) = true := by rw [decide_eq_true_iff]; omega
          by_cases hts : (t : Int) = S
          · have h3 : ((t : Int) == S) = true := by simpa using hts
            have hs1 : t + 1 = s1 := by have := HS8.out.1; omega
            obtain ⟨p, hp⟩ : ∃ p, b - 1 = p := ⟨_, rfl⟩
            obtain ⟨q, hq⟩ : ∃ q, t + p = q := ⟨_, rfl⟩
            have kp : IntKind.i64.wrap ((b : Int) - 1) = (p : Int) := by rw [IntWalk.i64_in _ (by omega)]; have := HBI.out; omega
            have kq : IntKind.i64.wrap ((t : Int) + (p : Int)) = (q : Int) := by rw [← hq]; exact IntWalk.i64_in _ (by omega)
            have hqb : q + 1 = t + b := by have := HBI.out; omega
            have hq8 : q + 1 ≤ 8 := by have := HBE.out (by omega); omega
            have hx2 : ¬ 9223372036854775807 < x.size + 2 := by omega
            have HO := Lib.hid (show (x ++ (⟨#[58, 58]⟩ : ByteArray)).data.toList = outAt l s1 b (q + 1) by
              rw [hqb, out_start hs1 HBI.out, ← HX.out.1, ByteArray.data_append]; simp)
            have hs2 : 1 ≤ s1 ∧ s1 - 1 + b ≤ q + 1 := by omega
            have hqt : t ≤ q := by omega
            clear hts hs1 hp hq hqb
            go_wp2_with fail
            go_roundw
            case rel => exact ⟨q + 1, _, rfl, by go_num, hq8, Lib.hid ⟨HO.out, .inr (.inr hs2)⟩, HH2, HB2⟩
            case measure => simp [intOf]; omega
          · have h3 : ((t : Int) == S) = false := by simpa using hts
            have htl : t < l.length := by rw [HL.out]; exact ht8
            obtain ⟨y, hy⟩ : ∃ y, l[t] = y := ⟨_, rfl⟩
            have hy16 : y < 65536 := by rw [← hy]; exact HBL.out _ (List.getElem_mem htl)
            have c0 : wr.cell? ⟨w.heap.size, t, none⟩ = some (.int .u16 y) := HH2.out.cell t (by simp [A8, htl, hy])
            have hss : s1 = 0 ∨ t + 1 < s1 ∨ 1 ≤ s1 ∧ s1 - 1 + b ≤ t := by have := HS8.out.1; have := HX.out.2; omega
            have HN := Lib.hid (out_next htl hss HBI.out)
            have HST := Lib.hid (show s1 = 0 ∨ t + 1 < s1 ∨ 1 ≤ s1 ∧ s1 - 1 + b ≤ t + 1 by omega)
            obtain ⟨D, hD⟩ : ∃ D : ByteArray, (⟨(hexD y).toArray⟩ : ByteArray) = D := ⟨_, rfl⟩
            have HCY := Lib.hid (show ∀ W, Calls Tryd.prog 33 #[.int .u64 y, .int .u64 16] W fun e w' => e = .returned (.string D) ∧ Below W.heap.size W w' from fun W => by rw [← hD]; exact text16_is y hy16 W)
            have HDL := Lib.hid (show D.data.toList = hexD l[t] by rw [← hD, hy])
            have hds : D.size ≤ 4 := by rw [← hD, ba_size]; exact hexD_len y hy16
            have hx3 : ¬ 9223372036854775807 < x.size + D.size := by omega
            have hx4 : ¬ 9223372036854775807 < x.size + 1 := by omega
            have hx5 : ¬ 9223372036854775807 < x.size + 1 + D.size := by omega
            clear hts hy hD hss
            rcases HN.out with ⟨n1, n2⟩ | ⟨r, n1, n2⟩ | ⟨r, c, n1, nc, n2⟩
            · have e0 : x.toList = [] := by rw [ByteArray.toList_eq, HX.out.1, n1]
              have e1 : (x.toList == []) = true := by simpa using e0
              have HO := Lib.hid (show (x ++ D).data.toList = outAt l s1 b (t + 1) by rw [n2, ByteArray.data_append, Array.toList_append, HX.out.1, n1, HDL.out]; rfl)
              clear n1 n2
              go_wp2_with fail
              refine (HCY.out _).mono ?_
              rintro e w2 ⟨rfl, hb2⟩
              have HB3 := Lib.hid (bel2 HB2.out hb2)
              have HH3 := Lib.hid (HH2.out.to hb2)
              clear hb2
              go_wp2_with fail
              go_roundw
              case rel => exact ⟨t + 1, _, rfl, by go_num, by omega, Lib.hid ⟨HO.out, by have := HST.out; omega⟩, HH3, HB3⟩
              case measure => simp [intOf]; omega
            · have e0 : ¬ x.toList = [] := by rw [ByteArray.toList_eq, HX.out.1, n1]; simp
              have e1 : (x.toList == []) = false := by simpa using e0
              have hxp : 0 < x.size := by rw [← len_list, HX.out.1, n1]; simp
              have g0 : ((x[x.size - 1].toNat : Int) == 58) = true := by rw [last_byte x r 58 (by rw [HX.out.1, n1]) hxp]; rfl
              have i0 : (0 : Int) ≤ (x.size : Int) - 1 := by omega
              have i1 : (x.size : Int) - 1 < (x.size : Int) := by omega
              have i2 : ((x.size : Int) - 1).toNat = x.size - 1 := by omega
              have i3 : x.size - 1 < x.size := by omega
              have HO := Lib.hid (show (x ++ D).data.toList = outAt l s1 b (t + 1) by rw [n2, ByteArray.data_append, Array.toList_append, HX.out.1, HDL.out])
              clear n1 n2
              go_wp2_with fail
              refine (HCY.out _).mono ?_
              rintro e w2 ⟨rfl, hb2⟩
              have HB3 := Lib.hid (bel2 HB2.out hb2)
              have HH3 := Lib.hid (HH2.out.to hb2)
              clear hb2
              go_wp2_with fail
              go_roundw
              case rel => exact ⟨t + 1, _, rfl, by go_num, by omega, Lib.hid ⟨HO.out, by have := HST.out; omega⟩, HH3, HB3⟩
              case measure => simp [intOf]; omega
            · have e0 : ¬ x.toList = [] := by rw [ByteArray.toList_eq, HX.out.1, n1]; simp
              have e1 : (x.toList == []) = false := by simpa using e0
              have hxp : 0 < x.size := by rw [← len_list, HX.out.1, n1]; simp
              have g0 : ((x[x.size - 1].toNat : Int) == 58) = false := by
                rw [last_byte x r c (by rw [HX.out.1, n1]) hxp, beq_eq_false_iff_ne]
                intro e; exact nc (UInt8.toNat_inj.1 (by show _ = 58; omega))
              have i0 : (0 : Int) ≤ (x.size : Int) - 1 := by omega
              have i1 : (x.size : Int) - 1 < (x.size : Int) := by omega
              have i2 : ((x.size : Int) - 1).toNat = x.size - 1 := by omega
              have i3 : x.size - 1 < x.size := by omega
              have HO := Lib.hid (show ((x ++ (⟨#[58]⟩ : ByteArray)) ++ D).data.toList = outAt l s1 b (t + 1) by rw [n2, ByteArray.data_append, ByteArray.data_append, Array.toList_append, Array.toList_append, HX.out.1, HDL.out])
              clear n1 n2 nc
              go_wp2_with fail
              refine (HCY.out _).mono ?_
              rintro e w2 ⟨rfl, hb2⟩
              have HB3 := Lib.hid (bel2 HB2.out hb2)
              have HH3 := Lib.hid (HH2.out.to hb2)
              clear hb2
              go_wp2_with fail
              go_roundw
              case rel => exact ⟨t + 1, _, rfl, by go_num, by omega, Lib.hid ⟨HO.out, by have := HST.out; omega⟩, HH3, HB3⟩
              case measure => simp [intOf]; omega
        · have h2 : decide ((t : Int) < 8) = false := by rw [decide_eq_false_iff_not]; omega
          have HO := Lib.hid (show x = ⟨(tv6 l).toArray⟩ by
            apply ByteArray.ext; apply Array.ext'
            rw [HX.out.1, show t = 8 by omega, out_end HL.out HS8.out.2])
          go_wp2_with fail
          go_ret
          exact ⟨by rw [HO.out]; rfl, HB2.out⟩
end Go.Proofs.YtflddokngplgiaaDoor
