/-
  The document's Ends.
-/
import Derived.Test.YtflddokngplgiaaDoorXAM
namespace Go.Proofs.YtflddokngplgiaaDoor
open Go.RowKit
def dig0' (b : UInt8) : Bool := decide (48 ≤ b.toNat) && decide (b.toNat ≤ 57)
theorem refNE_bool (o : Option Nat) : ∃ n : Nat, refNE o = .returned (.tuple #[.int .u64 n, .bool o.isSome]) := by
  cases o with
  | none => exact ⟨0, rfl⟩
  | some n => exact ⟨n, rfl⟩
theorem ends_of (l : List UInt8) : endsB l = (!(lastP 46 (noDot l)).isEmpty && ((lastP 46 (noDot l)).all dig0' || (refN (lastP 46 (noDot l))).isSome)) := (refEnds_is l).symm
theorem ret_b {a b : Bool} (h : a = b) : Ending.returned (.bool a) = .returned (.bool b) := by rw [h]
set_option maxHeartbeats 4000000 in
set_option maxRecDepth 100000 in
theorem rends_is (s : ByteArray) (hs : s.size ≤ 2097152) (w : World) : Calls Tryd.prog 16 #[.string s] w fun e w' => e = .returned (.bool (endsB s.data.toList)) ∧ Below w.heap.size w w' := by
  have HP := Lib.hid (rparts_is s hs w)
  rw [refPs_is] at HP
  rw [ends_of]
  have hsp := last_split 46 (noDot s.data.toList)
  have hln := partsAt_len 46 (noDot s.data.toList) (lastP 46 (noDot s.data.toList)) (by rw [hsp]; simp)
  have hnl := noDot_len s.data.toList
  have hct := partsAt_count 46 (noDot s.data.toList)
  rw [len_list] at hnl
  generalize lastP 46 (noDot s.data.toList) = q at *
  generalize partsAt 46 (noDot s.data.toList) = ps at *
  have hqs : (mkB q).size ≤ 2097152 := by rw [mkB_size]; omega
  have hqq : (ps.dropLast ++ [q])[ps.dropLast.length]? = some q := by simp
  rw [← hsp, List.length_dropLast] at hqq
  have hn1 : 1 ≤ ps.length := by rw [hsp]; simp
  have hn2 : ps.length ≤ 2097153 := by omega
  obtain ⟨r, hr⟩ : ∃ r, (!q.isEmpty && (q.all dig0' || (refN q).isSome)) = r := ⟨_, rfl⟩
  rw [hr]
  obtain ⟨nv, hnv⟩ := refNE_bool (refN q)
  obtain ⟨rb, hrb⟩ : ∃ rb, (refN q).isSome = rb := ⟨_, rfl⟩
  rw [hrb] at hr hnv
  have HNUM := Lib.hid (fun W : World => show Calls Tryd.prog 27 #[.string (mkB q)] W fun e w' => e = .returned (.tuple #[.int .u64 nv, .bool rb]) ∧ Below W.heap.size W w' from (refN_is (mkB q) (by omega) W).mono fun e w' h => ⟨h.1.trans hnv, h.2⟩)
  obtain ⟨n, hn⟩ : ∃ n, ps.length = n := ⟨_, rfl⟩
  rw [hn] at hqq hn1 hn2
  have HQ := Lib.hid hqq
  have HN := Lib.hid hn
  have HR := Lib.hid hr
  have j0 : (0 : Int) ≤ (n : Int) - 1 := by omega
  have j1 : ((n : Int) - 1).toNat = n - 1 := by omega
  have j2 : n - 1 < n := by omega
  have j3 : (n : Int) - 1 < (n : Int) := by omega
  clear hsp hln hct hnl hqq hn hr hnv hrb
  go_enter Tryd.func16, Tryd.ntmps16
  go_wp2_with fail
  refine HP.out.mono ?_
  rintro e w1 ⟨⟨v, rfl, hst⟩, hb1⟩
  have HB1 := Lib.hid hb1
  obtain ⟨p, cap, rfl, hc⟩ := hst
  rw [HN.out]
  obtain ⟨g, rfl, hg, hcell⟩ := hc (n - 1) q HQ.out
  clear hc hb1 HP
  by_cases hq0 : q = []
  · have g1 : ((mkB q).toList == []) = true := by rw [mk_empty, hq0]; rfl
    have HF := Lib.hid (show r = false from by rw [← HR.out, hq0]; rfl)
    clear hq0
    go_wp2_with fail
    go_ret
    exact ⟨ret_b HF.out.symm, HB1.out⟩
  · have g1 := mk_full hq0
    have hne : q.isEmpty = false := by cases q with
      | nil => exact absurd rfl hq0
      | cons _ _ => rfl
    have HR2 := Lib.hid (show (q.all dig0' || rb) = r from by rw [← HR.out, hne]; rfl)
    clear hne hq0 HR
    go_wp2_with fail
    go_loopw [5] (fun i wr => ∃ k : Nat, k ≤ (mkB q).size ∧ i = .int .i64 k ∧ Hid (∀ (j : Nat) y, j < k → q[j]? = some y → dig0' y = true) ∧ wr = w1) (fun i _ => (mkB q).size - (intOf i).toNat)
    case atStart => exact ⟨0, by omega, rfl, Lib.hid (fun j y hj => by omega), rfl⟩
    case round =>
      obtain ⟨k, hk, rfl, HD, rfl⟩ := hrel
      by_cases hlt : k < (mkB q).size
      · have i1 : (k : Int) < ((mkB q).size : Int) := by omega
        have e0 : q[k]? = some (mkB q)[k] := get_list (mkB q) k hlt
        by_cases h48 : (mkB q)[k].toNat < 48
        · have c1 : ((mkB q)[k].toNat : Int) < 48 := by omega
          have c2 : decide (((mkB q)[k].toNat : Int) < 48) = true := decide_eq_true c1
          have HF := Lib.hid (show rb = r from by
            rw [← HR2.out, show q.all dig0' = false from List.all_eq_false.2 ⟨_, List.mem_of_getElem? e0, by unfold dig0'; simp; omega⟩, Bool.false_or])
          clear e0 HD
          go_wp2_with (go_at_call 27; refine (HNUM.out _).mono ?_; rintro e w2 ⟨rfl, hb2⟩)
          go_ret
          exact ⟨ret_b HF.out, HB1.out.trans (hb2.mono HB1.out.size)⟩
        · have c1 : ¬ ((mkB q)[k].toNat : Int) < 48 := by omega
          have c2 : decide (((mkB q)[k].toNat : Int) < 48) = false := decide_eq_false c1
          by_cases h57 : 57 < (mkB q)[k].toNat
          · have c3 : (57 : Int) < ((mkB q)[k].toNat : Int) := by omega
            have c4 : decide ((57 : Int) < ((mkB q)[k].toNat : Int)) = true := decide_eq_true c3
            have HF := Lib.hid (show rb = r from by
              rw [← HR2.out, show q.all dig0' = false from List.all_eq_false.2 ⟨_, List.mem_of_getElem? e0, by unfold dig0'; simp; omega⟩, Bool.false_or])
            clear e0 HD
            go_wp2_with (go_at_call 27; refine (HNUM.out _).mono ?_; rintro e w2 ⟨rfl, hb2⟩)
            go_ret
            exact ⟨ret_b HF.out, HB1.out.trans (hb2.mono HB1.out.size)⟩
          · have c3 : ¬ (57 : Int) < ((mkB q)[k].toNat : Int) := by omega
            have c4 : decide ((57 : Int) < ((mkB q)[k].toNat : Int)) = false := decide_eq_false c3
            have HDN := Lib.hid (show ∀ (j : Nat) y, j < k + 1 → q[j]? = some y → dig0' y = true from fun j y hj hy => by
              by_cases hjk : j = k
              · subst hjk; rw [e0] at hy; cases hy; unfold dig0'; rw [decide_eq_true (by omega), decide_eq_true (by omega)]; rfl
              · exact HD.out j y (by omega) hy)
            clear e0 HD
            go_wp2_with fail
            go_roundw
            case rel => exact ⟨k + 1, hlt, by go_num, HDN, trivial⟩
            case measure => simp [intOf]; omega
      · have i1 : ¬ (k : Int) < ((mkB q).size : Int) := by omega
        have HF := Lib.hid (show true = r from by
          rw [← HR2.out, show q.all dig0' = true from List.all_eq_true.2 fun y hy => by
            obtain ⟨j, hj, rfl⟩ := List.getElem_of_mem hy
            exact HD.out j _ (by rw [mkB_size] at hlt; omega) (List.getElem?_eq_getElem hj)]; rfl)
        go_wp2_with fail
        go_ret
        exact ⟨ret_b HF.out, HB1.out⟩
end Go.Proofs.YtflddokngplgiaaDoor
