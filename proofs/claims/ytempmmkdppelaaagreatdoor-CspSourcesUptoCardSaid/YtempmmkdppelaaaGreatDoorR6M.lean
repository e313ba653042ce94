import Derived.Test.YtempmmkdppelaaaGreatDoorR5M
import Derived.Test.YtempmmkdppelaaaGreatDoorT4M
/-
  The document's Check.
-/
namespace Go.Proofs.YtempmmkdppelaaaGreatDoor
open Go.RowKit
theorem bad_name {l : List Dir} {k : Nat} {x : Dir} (hx : l[k]? = some x) (h : rightD x = false) : ¬ okP l := fun h' => by
  rw [(h'.2 k x hx).1] at h; cases h
theorem bad_twice {l : List Dir} {k : Nat} {x : Dir} (hx : l[k]? = some x) (h : (l.take k).any (isD x.1) = true) : ¬ okP l := fun h' => by
  rw [(h'.2 k x hx).2] at h; cases h
theorem right_w {a : ByteArray} {b : List ByteArray} (h : wordB a = false) : rightD (a, b) = false := by unfold rightD; simp only [h, Bool.false_and]
theorem right_l {a : ByteArray} {b : List ByteArray} (h : ((lowS a).toList == a.toList) = false) : rightD (a, b) = false := by unfold rightD; simp only [h, Bool.and_false, Bool.false_and]
theorem right_n {a : ByteArray} {b : List ByteArray} (h : ¬ b.length ≤ 64) : rightD (a, b) = false := by unfold rightD; simp only [decide_eq_false h, Bool.and_false, Bool.false_and]
theorem right_v {a : ByteArray} {b : List ByteArray} {v : ByteArray} (hv : v ∈ b) (h : wordB v = false) : rightD (a, b) = false := by
  unfold rightD
  have : b.any (fun s => !wordB s) = true := List.any_eq_true.2 ⟨v, hv, by rw [h]; rfl⟩
  simp only [this, Bool.not_true, Bool.and_false]
theorem right_all {a : ByteArray} {b : List ByteArray} (h1 : wordB a = true) (h2 : ((lowS a).toList == a.toList) = true) (h3 : b.length ≤ 64) (h4 : ∀ (j : Nat) v, b[j]? = some v → wordB v = true) : rightD (a, b) = true := by
  unfold rightD
  have : b.any (fun s => !wordB s) = false := by
    rw [List.any_eq_false]
    intro v hv
    obtain ⟨j, hj, rfl⟩ := List.getElem_of_mem hv
    rw [h4 j _ (getT hj)]; simp
  simp only [h1, h2, decide_eq_true h3, this, Bool.not_false, Bool.and_true]
theorem rword_b (s : ByteArray) (hs : s.size ≤ 281474976710656) (r : Bool) (hr : wordB s = r) (w : World) : Calls Tryz.prog 48 #[.string s] w fun e w' => e = .returned (.bool r) ∧ Below w.heap.size w w' :=
  (rword_is s hs r hr w).mono fun _ w' h => ⟨h.1, h.2 ▸ Below.refl _ _⟩
set_option maxHeartbeats 4000000 in
set_option maxRecDepth 100000 in
theorem rcheck_is (v : Value) (l : List Dir) (rep : Bool) (r : Int) (hr : (okP l ∧ r = 0) ∨ (¬ okP l ∧ r = 20)) (hm : l.length ≤ 4294967296) (hz : Small l) (w : World) (hv : Dirs w v l) :
    Calls Tryz.prog 22 #[.agg #[v, .bool rep]] w fun e w' => e = .returned (.int .i64 r) ∧ Below w.heap.size w w' := by
  have hv' := hv
  obtain ⟨p, cap, rfl, hcap, _⟩ := hv
  obtain ⟨n, hn⟩ : ∃ n, l.length = n := ⟨_, rfl⟩
  rw [hn] at hm hv' hcap ⊢
  obtain ⟨X, hX⟩ : ∃ X, w.alloc (.cells #[.slice p n cap, .bool rep] 25) = X := ⟨_, rfl⟩
  have hB0 : Below w.heap.size w X := hX ▸ bnew w _
  have hs0 : X.heap.size = w.heap.size + 1 := by rw [← hX]; simp
  have h1 : Has X w.heap.size (.cells #[.slice p n cap, .bool rep] 25) := hX ▸ Has.new w _
  have HN := Lib.hid hn
  have HV := Lib.hid hv'
  have HB := Lib.hid hB0
  have H1 := Lib.hid h1
  have HZ := Lib.hid hz
  have HOK := Lib.hid (show okP l → r = 0 from fun h => by rcases hr with ⟨_, h'⟩ | ⟨h', _⟩; exact h'; exact absurd h h')
  have HNO := Lib.hid (show ¬ okP l → r = 20 from fun h => by rcases hr with ⟨h', _⟩ | ⟨_, h'⟩; exact absurd h' h; exact h')
  have x0 := h1.cell 0 rfl
  have hm0 : Tryz.prog.follows .mixedOrders = true := by kernel_rfl
  clear hv' hB0 h1 hn hz hr
  by_cases h64 : n ≤ 64
  · have g64 : decide ((64 : Int) < (n : Int)) = false := decide_eq_false (by omega)
    go_enter Tryz.func22, Tryz.ntmps22
    go_wp2_with fail
    clear hX x0
    go_loopw [16] (fun i wr => ∃ k : Nat, k ≤ n ∧ i = .int .i64 k ∧ Hid (∀ j, j < k → Good l j) ∧ Hid (Below X.heap.size X wr)) (fun i _ => n - (intOf i).toNat)
    case atStart => exact ⟨0, by omega, rfl, Lib.hid (fun j hj => by omega), Lib.hid (Below.refl _ _)⟩
    case round =>
      obtain ⟨wo, hwo⟩ : ∃ wo, wo = wr := ⟨_, rfl⟩
      subst hwo
      obtain ⟨k, hk, rfl, HE, HW⟩ := hrel
      have hsz : X.heap.size ≤ wo.heap.size := HW.out.size
      have HBW := Lib.hid (show Below w.heap.size w wo from HB.out.trans (HW.out.mono (by omega)))
      by_cases hlt : k < n
      · have hkl : k < l.length := by rw [HN.out]; exact hlt
        have i1 : (k : Int) < (n : Int) := by omega
        have i2 : k ≤ cap := by omega
        have i3 : (k : Int) ≤ (cap : Int) := by omega
        obtain ⟨p', c', e', _, hA⟩ := HV.out.to HBW.out
        simp only [Value.slice.injEq] at e'
        obtain ⟨rfl, -, rfl⟩ := e'
        have HALL := Lib.hid hA
        obtain ⟨g, o, vx, rfl, hg, hx, hy, hz⟩ := hA k l[k] (getT hkl)
        have hzk := HZ.out l[k] (List.getElem_mem hkl)
        have HK := Lib.hid (getT hkl)
        have HGD := Lib.hid (show rightD l[k] = true → (l.take k).any (isD l[k].1) = false → ∀ j, j < k + 1 → Good l j from fun e1 e2 j hj => by
          by_cases hjk : j = k
          · subst hjk; intro x hx; rw [getT hkl] at hx; cases hx; exact ⟨e1, e2⟩
          · exact HE.out j (by omega))
        clear hA HE
        generalize l[k] = f at *
        obtain ⟨a, b⟩ := f
        simp only at hx hz HGD
        have HS := Lib.hid hz
        obtain ⟨q2, c2, rfl, _⟩ := hz
        obtain ⟨hza, hzb, hzv⟩ := hzk
        have HZV := Lib.hid hzv
        simp only at hza hzb
        obtain ⟨W1, hW1⟩ : ∃ W1, wo.alloc (.cells #[.string a, .slice q2 b.length c2] 35) = W1 := ⟨_, rfl⟩
        have hbW : Below wo.heap.size wo W1 := hW1 ▸ bnew wo _
        have H5 := Lib.hid (show Has W1 wo.heap.size (.cells #[.string a, .slice q2 b.length c2] 35) from hW1 ▸ Has.new wo _)
        have hsz1 : wo.heap.size < W1.heap.size := by rw [← hW1]; simp
        have HBW1 := Lib.hid hbW
        have HSW := Lib.hid (HS.out.to hbW)
        have HX1 := Lib.hid ((H1.out.to HW.out).to hbW)
        have FIN := Lib.hid (show ∀ w2, Below W1.heap.size W1 w2 → Below X.heap.size X w2 from fun w2 h => HW.out.trans ((HBW1.out.trans (h.mono (by omega))).mono hsz))
        clear hbW HS hzv
        obtain ⟨x, hx1⟩ : ∃ x, wordB a = x := ⟨_, rfl⟩
        have HWD := Lib.hid (fun W : World => rword_b a (by omega) x hx1 W)
        have HLW := Lib.hid (fun W : World => rlower_is a (by omega) W)
        obtain ⟨y, hy1⟩ : ∃ y, ((lowS a).toList == a.toList) = y := ⟨_, rfl⟩
        have HYL := Lib.hid hy1
        have k0 : ∀ p : Later W1, p.v.cell? ⟨wo.heap.size, 0, none⟩ = some (.string a) := fun p => p.c (H5.out.cell 0 rfl) hsz1
        have k1 : ∀ p : Later W1, p.v.cell? ⟨wo.heap.size, 1, none⟩ = some (.slice q2 b.length c2) := fun p => p.c (H5.out.cell 1 rfl) hsz1
        obtain ⟨la, hla⟩ : ∃ la, lowS a = la := ⟨_, rfl⟩
        rw [hla] at HLW hy1
        cases x with
        | false =>
          have HF := Lib.hid (HNO.out (bad_name HK.out (right_w hx1)))
          clear hx1 hy1 hla
          go_wp2_with fail
          refine wp_region_quiet_later (by assumption) (by kernel_rfl) ?_
          repeat (go_big_quiet_step ((first | (go_at_call 48; exact Calls.later_of (HWD.out _)) | (go_at_call 41; exact Calls.later_of (HLW.out _)))))
          refine wpQuiet_nil ?_
          rintro w2 ⟨⟨_, h2⟩, rfl⟩
          go_wp2
          go_ret
          exact ⟨ret_int HF.out.symm, HB.out.trans ((FIN.out _ h2).mono (by omega))⟩
        | true =>
          cases y with
          | false =>
            have HF := Lib.hid (HNO.out (bad_name HK.out (right_l HYL.out)))
            clear hx1 hla
            go_wp2_with fail
            refine wp_region_quiet_later (by assumption) (by kernel_rfl) ?_
            repeat (go_big_quiet_step ((first | (go_at_call 48; exact Calls.later_of (HWD.out _)) | (go_at_call 41; exact Calls.later_of (HLW.out _)))))
            refine wpQuiet_nil ?_
            rintro w2 ⟨⟨_, h2⟩, rfl⟩
            go_wp2
            go_ret
            exact ⟨ret_int HF.out.symm, HB.out.trans ((FIN.out _ h2).mono (by omega))⟩
          | true =>
            by_cases h64b : b.length ≤ 64
            · have j1 : ¬ ((64 : Int) < (b.length : Int)) := by omega
              have j2 : decide ((64 : Int) < (b.length : Int)) = false := decide_eq_false j1
              have j3 : decide (64 < b.length) = false := decide_eq_false (by omega)
              clear hla
              go_wp2_with fail
              refine wp_region_quiet_later (by assumption) (by kernel_rfl) ?_
              repeat (go_big_quiet_step ((first | (go_at_call 48; exact Calls.later_of (HWD.out _)) | (go_at_call 41; exact Calls.later_of (HLW.out _)))))
              refine wpQuiet_nil ?_
              rintro w2 ⟨⟨_, h2⟩, rfl⟩
              have HW2 := Lib.hid h2
              have hs2 := h2.size
              have HX2 := Lib.hid (HX1.out.to h2)
              have HS2 := Lib.hid (HSW.out.to h2)
              have H52 := Lib.hid (H5.out.to h2)
              have HD2 := Lib.hid (show ∀ w3, Below w2.heap.size w2 w3 → Below w.heap.size w w3 from fun w3 h => HB.out.trans ((FIN.out _ (HW2.out.trans (h.mono HW2.out.size))).mono (by omega)))
              have y0 := HX2.out.cell 0 rfl
              have hsa : wo.heap.size < w2.heap.size := by omega
              clear h2
              go_wp2_with fail
              go_loopw [44] (fun i w3 => ∃ j : Nat, j ≤ k ∧ i = .int .i64 j ∧ Hid (∀ (j' : Nat) y, j' < j → l[j']? = some y → isD a y = false) ∧ Hid (Below w2.heap.size w2 w3)) (fun i _ => k - (intOf i).toNat)
              case atStart => exact ⟨0, by omega, rfl, Lib.hid (fun j y hj => by omega), Lib.hid (Below.refl _ _)⟩
              case round =>
                obtain ⟨w3, hw3⟩ : ∃ w3, w3 = wr := ⟨_, rfl⟩
                subst hw3
                obtain ⟨j, hj, rfl, HE2, HW3⟩ := hrel
                by_cases hjk : j < k
                · have hjl : j < l.length := by rw [HN.out]; omega
                  have i4 : (j : Int) < (k : Int) := by omega
                  have hs3 := HW3.out.size
                  have hBR : Below wo.heap.size wo w3 := HBW1.out.trans ((HW2.out.trans (HW3.out.mono (by omega))).mono (by omega))
                  obtain ⟨g', o', vy, e', hg', hx', hy', hz'⟩ := HALL.out j l[j] (getT hjl)
                  simp only [Option.some.injEq, Addr.mk.injEq, and_true] at e'
                  obtain ⟨rfl, rfl⟩ := e'
                  have hx4 : w3.cell? ⟨g, o + j * 2, none⟩ = some (.string l[j].1) := (hBR.cell (p := ⟨g, o + j * 2, none⟩) hg').trans hx'
                  have hy4 : w3.cell? ⟨g, o + j * 2 + 1, none⟩ = some vy := (hBR.cell (p := ⟨g, o + j * 2 + 1, none⟩) hg').trans hy'
                  have HTW := Lib.hid (show isD a l[j] = true → r = 20 from fun h => HNO.out (bad_twice HK.out (List.any_eq_true.2 ⟨l[j], by
                    rw [List.mem_take_iff_getElem]; exact ⟨j, by omega, rfl⟩, h⟩)))
                  have HMIS := Lib.hid (show isD a l[j] = false → ∀ (j' : Nat) y, j' < j + 1 → l[j']? = some y → isD a y = false from fun h j' y hj' hy => by
                    by_cases hq : j' = j
                    · subst hq; rw [getT hjl] at hy; cases hy; exact h
                    · exact HE2.out j' y (by omega) hy)
                  obtain ⟨q3, c3, rfl, _⟩ := hz'
                  clear hx' hy' HE2
                  generalize l[j] = f at *
                  obtain ⟨a2, b2⟩ := f
                  simp only at hx4 hy4
                  obtain ⟨W4, hW4⟩ : ∃ W4, w3.alloc (.cells #[.string a2, .slice q3 b2.length c3] 35) = W4 := ⟨_, rfl⟩
                  have hb4 : Below w3.heap.size w3 W4 := hW4 ▸ bnew w3 _
                  have H6 := Lib.hid (show Has W4 w3.heap.size (.cells #[.string a2, .slice q3 b2.length c3] 35) from hW4 ▸ Has.new w3 _)
                  have z0 := H6.out.cell 0 rfl
                  have z4 := ((H52.out.to HW3.out).to hb4).cell 0 rfl
                  have HB4 := Lib.hid (HW3.out.trans (hb4.mono hs3))
                  clear hb4
                  cases hm2 : isD a (a2, b2) with
                  | false =>
                    have gs : (a2.toList == a.toList) = false := hm2
                    have HT := Lib.hid (HMIS.out hm2)
                    clear HMIS hm2 HTW
                    go_wp2_with fail
                    go_roundw
                    case rel => exact ⟨j + 1, by omega, by go_num, HT, HB4⟩
                    case measure => simp [intOf]; omega
                  | true =>
                    have gs : (a2.toList == a.toList) = true := hm2
                    have HF := Lib.hid (HTW.out hm2)
                    clear HMIS hm2 HTW
                    go_wp2_with fail
                    go_ret
                    exact ⟨ret_int HF.out.symm, HD2.out _ HB4.out⟩
                · obtain rfl : j = k := by omega
                  have hs3 := HW3.out.size
                  have z1 := (H52.out.to HW3.out).cell 1 rfl
                  have HN3 := Lib.hid (show (l.take j).any (isD a) = false from by
                    rw [List.any_eq_false]
                    intro y hy
                    obtain ⟨i, hi, rfl⟩ := List.getElem_of_mem hy
                    rw [List.length_take] at hi
                    rw [List.getElem_take, HE2.out i l[i] (by omega) (getT (by omega))]; simp)
                  have HS3 := Lib.hid (HS2.out.to HW3.out)
                  clear HE2
                  go_wp2_with fail
                  go_loopw [57] (fun i w5 => ∃ m : Nat, m ≤ b.length ∧ i = .int .i64 m ∧ Hid (∀ (j' : Nat) v, j' < m → b[j']? = some v → wordB v = true) ∧ Hid (Below w3.heap.size w3 w5)) (fun i _ => b.length - (intOf i).toNat)
                  case atStart => exact ⟨0, by omega, rfl, Lib.hid (fun j y hj => by omega), Lib.hid (Below.refl _ _)⟩
                  case round =>
                    obtain ⟨w5, hw5⟩ : ∃ w5, w5 = wr := ⟨_, rfl⟩
                    subst hw5
                    obtain ⟨m, hm1, rfl, HE3, HW5⟩ := hrel
                    by_cases hmb : m < b.length
                    · have i5 : (m : Int) < (b.length : Int) := by omega
                      obtain ⟨q5, c5, hq5, hcells⟩ := HS3.out.to HW5.out
                      simp only [Value.slice.injEq] at hq5
                      obtain ⟨rfl, -, rfl⟩ := hq5
                      obtain ⟨g5, o5, rfl, hg5, hx5⟩ := hcells m b[m] (getT hmb)
                      have hsz5 := HZV.out b[m] (List.getElem_mem hmb)
                      have HBV := Lib.hid (show wordB b[m] = false → r = 20 from fun h => HNO.out (bad_name HK.out (right_v (List.getElem_mem hmb) h)))
                      have HOV := Lib.hid (show wordB b[m] = true → ∀ (j' : Nat) v, j' < m + 1 → b[j']? = some v → wordB v = true from fun h j' v hj' hv => by
                        by_cases hq : j' = m
                        · subst hq; rw [getT hmb] at hv; cases hv; exact h
                        · exact HE3.out j' v (by omega) hv)
                      clear hcells HE3
                      generalize b[m] = x at *
                      cases hxw : wordB x with
                      | false =>
                        have HWX := Lib.hid (fun W : World => rword_b x (by omega) false hxw W)
                        have HF := Lib.hid (HBV.out hxw)
                        clear hxw
                        go_wp2_with fail
                        refine (HWX.out _).mono ?_
                        rintro e w6 ⟨rfl, h6⟩
                        have HB6 := Lib.hid (HW3.out.trans ((HW5.out.trans (h6.mono HW5.out.size)).mono hs3))
                        clear h6
                        go_wp2
                        go_ret
                        exact ⟨ret_int HF.out.symm, HD2.out _ HB6.out⟩
                      | true =>
                        have HWX := Lib.hid (fun W : World => rword_b x (by omega) true hxw W)
                        have HT := Lib.hid (HOV.out hxw)
                        clear hxw
                        go_wp2_with fail
                        refine (HWX.out _).mono ?_
                        rintro e w6 ⟨rfl, h6⟩
                        have HB6 := Lib.hid (HW5.out.trans (h6.mono HW5.out.size))
                        clear h6
                        go_wp2
                        go_roundw
                        case rel => exact ⟨m + 1, by omega, by go_num, HT, HB6⟩
                        case measure => simp [intOf]; omega
                    · obtain rfl : m = b.length := by omega
                      have HT := Lib.hid (HGD.out (right_all hx1 HYL.out h64b fun j' v hv => HE3.out j' v (List.getElem?_eq_some_iff.1 hv).1 hv) HN3.out)
                      have HB6 := Lib.hid (FIN.out _ (HW2.out.trans ((HW3.out.trans (HW5.out.mono hs3)).mono HW2.out.size)))
                      go_wp2
                      go_roundw
                      case rel => exact ⟨j + 1, by omega, by go_num, HT, HB6⟩
                      case measure => simp [intOf]; omega
            · have j1 : (64 : Int) < (b.length : Int) := by omega
              have j2 : decide ((64 : Int) < (b.length : Int)) = true := decide_eq_true j1
              have j3 : decide (64 < b.length) = true := decide_eq_true (by omega)
              have HF := Lib.hid (HNO.out (bad_name HK.out (right_n h64b)))
              clear hla hx1
              go_wp2_with fail
              refine wp_region_quiet_later (by assumption) (by kernel_rfl) ?_
              repeat (go_big_quiet_step ((first | (go_at_call 48; exact Calls.later_of (HWD.out _)) | (go_at_call 41; exact Calls.later_of (HLW.out _)))))
              refine wpQuiet_nil ?_
              rintro w2 ⟨⟨_, h2⟩, rfl⟩
              go_wp2
              go_ret
              exact ⟨ret_int HF.out.symm, HB.out.trans ((FIN.out _ h2).mono (by omega))⟩
      · have HF := Lib.hid (HOK.out ⟨by rw [HN.out]; exact h64, fun j => by
          by_cases hj : j < k
          · exact HE.out j hj
          · intro x hx
            have := (List.getElem?_eq_some_iff.1 hx).1
            rw [HN.out] at this; omega⟩)
        go_wp2
        go_ret
        exact ⟨ret_int HF.out.symm, HBW.out⟩
  · have g64 : decide ((64 : Int) < (n : Int)) = true := decide_eq_true (by omega)
    have HF := Lib.hid (HNO.out fun h => by have := h.1; rw [HN.out] at this; omega)
    go_enter Tryz.func22, Tryz.ntmps22
    go_wp2_with fail
    go_ret
    exact ⟨ret_int HF.out.symm, HB.out⟩
end Go.Proofs.YtempmmkdppelaaaGreatDoor
/-
  The document's letter and digit.
-/
namespace Go.Proofs.YtempmmkdppelaaaGreatDoor
open Go.RowKit
set_option maxHeartbeats 1000000 in
theorem rletter_is (b : UInt8) (r : Bool) (hr : letB b = r) (w : World) : Calls Tryz.prog 73 #[.int .u8 b.toNat] w fun e w' => e = .returned (.bool r) ∧ w' = w := by
  unfold letB at hr
  have HR := Lib.hid hr
  clear hr
  generalize b.toNat = n at *
  by_cases h1 : 97 ≤ n
  · have g1 : decide ((97 : Int) ≤ (n : Int)) = true := decide_eq_true (by omega)
    by_cases h2 : n ≤ 122
    · have g2 : decide ((n : Int) ≤ 122) = true := decide_eq_true (by omega)
      have hr : r = true := by rw [← HR.out]; simp [h1, h2]
      subst hr
      go_enter Tryz.func73, Tryz.ntmps73
      go_wp2
      go_ret
      exact ⟨rfl, rfl⟩
    · have g2 : decide ((n : Int) ≤ 122) = false := decide_eq_false (by omega)
      have g3 : decide ((65 : Int) ≤ (n : Int)) = true := decide_eq_true (by omega)
      have g4 : decide ((n : Int) ≤ 90) = false := decide_eq_false (by omega)
      have hr : r = false := by rw [← HR.out]; simp [h2]; omega
      subst hr
      go_enter Tryz.func73, Tryz.ntmps73
      go_wp2
      go_ret
      exact ⟨rfl, rfl⟩
  · have g1 : decide ((97 : Int) ≤ (n : Int)) = false := decide_eq_false (by omega)
    by_cases h3 : 65 ≤ n
    · have g3 : decide ((65 : Int) ≤ (n : Int)) = true := decide_eq_true (by omega)
      by_cases h4 : n ≤ 90
      · have g4 : decide ((n : Int) ≤ 90) = true := decide_eq_true (by omega)
        have hr : r = true := by rw [← HR.out]; simp [h3, h4]
        subst hr
        go_enter Tryz.func73, Tryz.ntmps73
        go_wp2
        go_ret
        exact ⟨rfl, rfl⟩
      · have g4 : decide ((n : Int) ≤ 90) = false := decide_eq_false (by omega)
        have hr : r = false := by rw [← HR.out]; simp [h4]; omega
        subst hr
        go_enter Tryz.func73, Tryz.ntmps73
        go_wp2
        go_ret
        exact ⟨rfl, rfl⟩
    · have g3 : decide ((65 : Int) ≤ (n : Int)) = false := decide_eq_false (by omega)
      have hr : r = false := by rw [← HR.out]; simp [h3]; omega
      subst hr
      go_enter Tryz.func73, Tryz.ntmps73
      go_wp2
      go_ret
      exact ⟨rfl, rfl⟩
set_option maxHeartbeats 1000000 in
theorem rdigit_is (b : UInt8) (r : Bool) (hr : digB b = r) (w : World) : Calls Tryz.prog 74 #[.int .u8 b.toNat] w fun e w' => e = .returned (.bool r) ∧ w' = w := by
  unfold digB at hr
  have HR := Lib.hid hr
  clear hr
  generalize b.toNat = n at *
  by_cases h1 : 48 ≤ n
  · have g1 : decide ((48 : Int) ≤ (n : Int)) = true := decide_eq_true (by omega)
    by_cases h2 : n ≤ 57
    · have g2 : decide ((n : Int) ≤ 57) = true := decide_eq_true (by omega)
      have hr : r = true := by rw [← HR.out]; simp [h1, h2]
      subst hr
      go_enter Tryz.func74, Tryz.ntmps74
      go_wp2
      go_ret
      exact ⟨rfl, rfl⟩
    · have g2 : decide ((n : Int) ≤ 57) = false := decide_eq_false (by omega)
      have hr : r = false := by rw [← HR.out]; simp [h2]
      subst hr
      go_enter Tryz.func74, Tryz.ntmps74
      go_wp2
      go_ret
      exact ⟨rfl, rfl⟩
  · have g1 : decide ((48 : Int) ≤ (n : Int)) = false := decide_eq_false (by omega)
    have hr : r = false := by rw [← HR.out]; simp [h1]
    subst hr
    go_enter Tryz.func74, Tryz.ntmps74
    go_wp2
    go_ret
    exact ⟨rfl, rfl⟩
end Go.Proofs.YtempmmkdppelaaaGreatDoor
