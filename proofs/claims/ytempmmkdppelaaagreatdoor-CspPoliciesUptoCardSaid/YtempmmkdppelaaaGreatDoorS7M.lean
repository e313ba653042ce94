import Derived.Test.YtempmmkdppelaaaGreatDoorS6M
/-
  csp's nonce.
-/
namespace Go.Proofs.YtempmmkdppelaaaGreatDoor
open Go.RowKit
def nonceM : ByteArray := ⟨#[110, 111, 110, 99, 101, 45]⟩
def nonceP (s : List UInt8) : Option Src :=
  match markedP s nonceM.data.toList with
  | some t => if codeB t then some { text := ⟨t.toArray⟩ } else none
  | none => none
theorem marked_arr {s beg : List UInt8} {n : Nat} (h : s.length ≤ n) : (⟨((markedP s beg).getD []).toArray⟩ : ByteArray).size ≤ n := by
  rw [← Ks.len_list]
  exact Nat.le_trans (marked_len s beg) h
set_option maxHeartbeats 4000000 in
set_option maxRecDepth 100000 in
theorem nonce_is (s : ByteArray) (hs : s.size ≤ 2097152) (w : World) :
    Calls Tryz.prog 66 #[.string s] w (RdRet (nonceP s.data.toList) w) := by
  have HM := Lib.hid (fun (W : World) => marked_is s nonceM hs (by decide) _ rfl W)
  unfold nonceP
  have hml := marked_arr (beg := nonceM.data.toList) (show s.data.toList.length ≤ 2097152 by rw [Ks.len_list]; exact hs)
  generalize markedP s.data.toList nonceM.data.toList = m at *
  unfold optS nonceM at HM
  obtain ⟨X, hX⟩ : ∃ X, w.alloc (.cells #[.int .u8 0, .string ⟨#[]⟩, .string ⟨#[]⟩, .bool false, .int .i64 0, .bool false, .bool false, .string ⟨#[]⟩] 46) = X := ⟨_, rfl⟩
  have hXb : Has X w.heap.size (.cells ({} : Src).cs 46) := hX ▸ Has.new w _
  have HXB := Lib.hid hXb
  have HB0 := Lib.hid (show Below w.heap.size w X from hX ▸ bnew w _)
  clear hXb
  obtain ⟨t, ht⟩ : ∃ t : ByteArray, t = ⟨(m.getD []).toArray⟩ := ⟨_, rfl⟩
  rw [← ht] at HM hml
  have HC := Lib.hid (fun (W : World) => clone_is t W (by omega))
  cases m with
  | none =>
    clear ht
    rw [show (none : Option (List UInt8)).isSome = false from rfl] at HM
    simp only
    go_enter Tryz.func66, Tryz.ntmps66
    go_wp2_with (first | (go_at_call 87; refine (HM.out _).mono ?_; rintro e w1 ⟨rfl, hb1⟩; have HXK1 := Lib.hid (HXB.out.to hb1); have HB1 := Lib.hid (HB0.out.trans (hb1.mono HB0.out.size)); clear hb1) | (go_at_call 46; refine (HC.out _).mono ?_; rintro e w2 ⟨rfl, hb2⟩; have HXK := Lib.hid (HXK1.out.to hb2); have HB2 := Lib.hid (HB1.out.trans (hb2.mono HB1.out.size)); clear hb2; have z0 := HXK.out.cell 0 rfl; have z1 := HXK.out.cell 1 rfl; have z2 := HXK.out.cell 2 rfl; have z3 := HXK.out.cell 3 rfl; have z4 := HXK.out.cell 4 rfl; have z5 := HXK.out.cell 5 rfl; have z6 := HXK.out.cell 6 rfl; have z7 := HXK.out.cell 7 rfl; have f0 := HXK.out.free 0; have f1 := HXK.out.free 1; have f2 := HXK.out.free 2; have f3 := HXK.out.free 3; have f4 := HXK.out.free 4; have f5 := HXK.out.free 5; have f6 := HXK.out.free 6; have f7 := HXK.out.free 7))
    show bodyPost _ _ _ _ _ (st8 w2 w.heap.size { text := t })
    exact bodyPost_ret (ret46 (p := 2) (t2 := 3) rfl _ _ w.heap.size { text := t } (.bool false) rfl rfl (st8_has (x := { text := t }) HXK.out)) rfl (src_done { text := t } false rfl HB2.out (fun y hy => by cases hy))
  | some l =>
    have htl : t.data.toList = l := by rw [ht]; rfl
    obtain ⟨r, hr⟩ : ∃ r, codeB t.data.toList = r := ⟨_, rfl⟩
    have HD := Lib.hid (fun (W : World) => code_is t hml r hr W)
    rw [htl] at hr
    have HR := Lib.hid (show (match (some l : Option (List UInt8)) with | some t => if codeB t = true then some { text := ⟨t.toArray⟩ } else none | none => none : Option Src) = if r = true then some { text := t } else none by rw [ht]; simp only [hr]; rfl)
    rw [HR.out]
    clear ht htl hr HR
    rw [show (some l : Option (List UInt8)).isSome = true from rfl] at HM
    cases r with
    | true =>
      go_enter Tryz.func66, Tryz.ntmps66
      go_wp2_with (first | (go_at_call 87; refine (HM.out _).mono ?_; rintro e w1 ⟨rfl, hb1⟩; have HXK1 := Lib.hid (HXB.out.to hb1); have HB1 := Lib.hid (HB0.out.trans (hb1.mono HB0.out.size)); clear hb1) | (go_at_call 46; refine (HC.out _).mono ?_; rintro e w2 ⟨rfl, hb2⟩; have HXK2 := Lib.hid (HXK1.out.to hb2); have HB2 := Lib.hid (HB1.out.trans (hb2.mono HB1.out.size)); clear hb2) | (go_at_call 88; refine (HD.out _).mono ?_; rintro e w3 ⟨rfl, hb3⟩; have HXK := Lib.hid (HXK2.out.to hb3); have HB3 := Lib.hid (HB2.out.trans (hb3.mono HB2.out.size)); clear hb3; have z0 := HXK.out.cell 0 rfl; have z1 := HXK.out.cell 1 rfl; have z2 := HXK.out.cell 2 rfl; have z3 := HXK.out.cell 3 rfl; have z4 := HXK.out.cell 4 rfl; have z5 := HXK.out.cell 5 rfl; have z6 := HXK.out.cell 6 rfl; have z7 := HXK.out.cell 7 rfl; have f0 := HXK.out.free 0; have f1 := HXK.out.free 1; have f2 := HXK.out.free 2; have f3 := HXK.out.free 3; have f4 := HXK.out.free 4; have f5 := HXK.out.free 5; have f6 := HXK.out.free 6; have f7 := HXK.out.free 7))
      show bodyPost _ _ _ _ _ (st8 w3 w.heap.size { text := t })
      exact bodyPost_ret (ret46 (p := 2) (t2 := 3) rfl _ _ w.heap.size { text := t } (.bool true) rfl rfl (st8_has (x := { text := t }) HXK.out)) rfl (src_done { text := t } true rfl HB3.out (fun y hy => Option.some.inj hy))
    | false =>
      go_enter Tryz.func66, Tryz.ntmps66
      go_wp2_with (first | (go_at_call 87; refine (HM.out _).mono ?_; rintro e w1 ⟨rfl, hb1⟩; have HXK1 := Lib.hid (HXB.out.to hb1); have HB1 := Lib.hid (HB0.out.trans (hb1.mono HB0.out.size)); clear hb1) | (go_at_call 46; refine (HC.out _).mono ?_; rintro e w2 ⟨rfl, hb2⟩; have HXK2 := Lib.hid (HXK1.out.to hb2); have HB2 := Lib.hid (HB1.out.trans (hb2.mono HB1.out.size)); clear hb2) | (go_at_call 88; refine (HD.out _).mono ?_; rintro e w3 ⟨rfl, hb3⟩; have HXK := Lib.hid (HXK2.out.to hb3); have HB3 := Lib.hid (HB2.out.trans (hb3.mono HB2.out.size)); clear hb3; have z0 := HXK.out.cell 0 rfl; have z1 := HXK.out.cell 1 rfl; have z2 := HXK.out.cell 2 rfl; have z3 := HXK.out.cell 3 rfl; have z4 := HXK.out.cell 4 rfl; have z5 := HXK.out.cell 5 rfl; have z6 := HXK.out.cell 6 rfl; have z7 := HXK.out.cell 7 rfl; have f0 := HXK.out.free 0; have f1 := HXK.out.free 1; have f2 := HXK.out.free 2; have f3 := HXK.out.free 3; have f4 := HXK.out.free 4; have f5 := HXK.out.free 5; have f6 := HXK.out.free 6; have f7 := HXK.out.free 7))
      show bodyPost _ _ _ _ _ (st8 w3 w.heap.size { text := t })
      exact bodyPost_ret (ret46 (p := 2) (t2 := 3) rfl _ _ w.heap.size { text := t } (.bool false) rfl rfl (st8_has (x := { text := t }) HXK.out)) rfl (src_done { text := t } false rfl HB3.out (fun y hy => by cases hy))
end Go.Proofs.YtempmmkdppelaaaGreatDoor
/-
  csp's scheme.
-/
namespace Go.Proofs.YtempmmkdppelaaaGreatDoor
open Go.RowKit
def schemeP (s : List UInt8) : Option Src :=
  if (Lib.hasSuffix s [58] && schemeB (Lib.trimSuffix s [58])) = true then some { scheme := lowS ⟨(Lib.trimSuffix s [58]).toArray⟩ } else none
theorem suff_len (s : List UInt8) (c : List UInt8) : (Lib.trimSuffix s c).length ≤ s.length := by
  unfold Lib.trimSuffix; split
  · rw [List.length_take]; omega
  · exact Nat.le_refl _
set_option maxHeartbeats 4000000 in
set_option maxRecDepth 100000 in
theorem scheme_is (s : ByteArray) (hs : s.size ≤ 2097152) (w : World) :
    Calls Tryz.prog 68 #[.string s] w (RdRet (schemeP s.data.toList) w) := by
  have HM := Lib.hid (fun (W : World) => Tryz.strings_CutSuffix s ⟨#[58]⟩ W (by omega))
  unfold schemeP
  rw [show (⟨#[58]⟩ : ByteArray).data.toList = [58] from rfl] at HM
  have hml : (⟨(Lib.trimSuffix s.data.toList [58]).toArray⟩ : ByteArray).size ≤ 2097152 := by
    rw [← Ks.len_list]
    refine Nat.le_trans (suff_len _ _) ?_
    rw [Ks.len_list]; exact hs
  obtain ⟨X, hX⟩ : ∃ X, w.alloc (.cells #[.int .u8 0, .string ⟨#[]⟩, .string ⟨#[]⟩, .bool false, .int .i64 0, .bool false, .bool false, .string ⟨#[]⟩] 46) = X := ⟨_, rfl⟩
  have hXb : Has X w.heap.size (.cells ({} : Src).cs 46) := hX ▸ Has.new w _
  have HXB := Lib.hid hXb
  have HB0 := Lib.hid (show Below w.heap.size w X from hX ▸ bnew w _)
  clear hXb
  generalize Lib.hasSuffix s.data.toList [58] = q at *
  generalize hl : Lib.trimSuffix s.data.toList [58] = l at *
  obtain ⟨t, ht⟩ : ∃ t : ByteArray, t = ⟨l.toArray⟩ := ⟨_, rfl⟩
  have htl : l = t.data.toList := by rw [ht]
  rw [← ht] at HM hml ⊢
  rw [htl]
  have HL := Lib.hid (show ∀ W : World, Calls Tryz.prog 35 #[.string t] W fun e w' => e = .returned (.string (lowS t)) ∧ Below W.heap.size W w' from fun W => lower_any t (by unfold maxLen; omega) W)
  obtain ⟨r, hr⟩ : ∃ r, schemeB t.data.toList = r := ⟨_, rfl⟩
  have HD := Lib.hid (fun (W : World) => isScheme_is t hml r hr W)
  rw [hr]
  generalize lowS t = u at *
  clear hr htl ht hl
  cases q with
  | false =>
    rw [if_neg (by simp)]
    go_enter Tryz.func68, Tryz.ntmps68
    go_wp2_with (first | (go_at_call 89; refine (HM.out _).mono ?_; rintro e w1 ⟨rfl, rfl⟩) | (go_at_call 35; refine (HL.out _).mono ?_; rintro e w2 ⟨rfl, hb2⟩; have HXK := Lib.hid (HXB.out.to hb2); have HB2 := Lib.hid (HB0.out.trans (hb2.mono HB0.out.size)); clear hb2; have z0 := HXK.out.cell 0 rfl; have z1 := HXK.out.cell 1 rfl; have z2 := HXK.out.cell 2 rfl; have z3 := HXK.out.cell 3 rfl; have z4 := HXK.out.cell 4 rfl; have z5 := HXK.out.cell 5 rfl; have z6 := HXK.out.cell 6 rfl; have z7 := HXK.out.cell 7 rfl; have f0 := HXK.out.free 0; have f1 := HXK.out.free 1; have f2 := HXK.out.free 2; have f3 := HXK.out.free 3; have f4 := HXK.out.free 4; have f5 := HXK.out.free 5; have f6 := HXK.out.free 6; have f7 := HXK.out.free 7))
    show bodyPost _ _ _ _ _ (st8 w2 w.heap.size { scheme := u })
    exact bodyPost_ret (ret46 (p := 2) (t2 := 3) rfl _ _ w.heap.size { scheme := u } (.bool false) rfl rfl (st8_has (x := { scheme := u }) HXK.out)) rfl (src_done { scheme := u } false rfl HB2.out (fun y hy => by cases hy))
  | true =>
    cases r with
    | false =>
      rw [if_neg (by simp)]
      go_enter Tryz.func68, Tryz.ntmps68
      go_wp2_with (first | (go_at_call 89; refine (HM.out _).mono ?_; rintro e w1 ⟨rfl, rfl⟩) | (go_at_call 35; refine (HL.out _).mono ?_; rintro e w2 ⟨rfl, hb2⟩; have HXK2 := Lib.hid (HXB.out.to hb2); have HB2 := Lib.hid (HB0.out.trans (hb2.mono HB0.out.size)); clear hb2) | (go_at_call 90; refine (HD.out _).mono ?_; rintro e w3 ⟨rfl, hb3⟩; have HXK := Lib.hid (HXK2.out.to hb3); have HB3 := Lib.hid (HB2.out.trans (hb3.mono HB2.out.size)); clear hb3; have z0 := HXK.out.cell 0 rfl; have z1 := HXK.out.cell 1 rfl; have z2 := HXK.out.cell 2 rfl; have z3 := HXK.out.cell 3 rfl; have z4 := HXK.out.cell 4 rfl; have z5 := HXK.out.cell 5 rfl; have z6 := HXK.out.cell 6 rfl; have z7 := HXK.out.cell 7 rfl; have f0 := HXK.out.free 0; have f1 := HXK.out.free 1; have f2 := HXK.out.free 2; have f3 := HXK.out.free 3; have f4 := HXK.out.free 4; have f5 := HXK.out.free 5; have f6 := HXK.out.free 6; have f7 := HXK.out.free 7))
      show bodyPost _ _ _ _ _ (st8 w3 w.heap.size { scheme := u })
      exact bodyPost_ret (ret46 (p := 2) (t2 := 3) rfl _ _ w.heap.size { scheme := u } (.bool false) rfl rfl (st8_has (x := { scheme := u }) HXK.out)) rfl (src_done { scheme := u } false rfl HB3.out (fun y hy => by cases hy))
    | true =>
      rw [if_pos (by simp)]
      go_enter Tryz.func68, Tryz.ntmps68
      go_wp2_with (first | (go_at_call 89; refine (HM.out _).mono ?_; rintro e w1 ⟨rfl, rfl⟩) | (go_at_call 35; refine (HL.out _).mono ?_; rintro e w2 ⟨rfl, hb2⟩; have HXK2 := Lib.hid (HXB.out.to hb2); have HB2 := Lib.hid (HB0.out.trans (hb2.mono HB0.out.size)); clear hb2) | (go_at_call 90; refine (HD.out _).mono ?_; rintro e w3 ⟨rfl, hb3⟩; have HXK := Lib.hid (HXK2.out.to hb3); have HB3 := Lib.hid (HB2.out.trans (hb3.mono HB2.out.size)); clear hb3; have z0 := HXK.out.cell 0 rfl; have z1 := HXK.out.cell 1 rfl; have z2 := HXK.out.cell 2 rfl; have z3 := HXK.out.cell 3 rfl; have z4 := HXK.out.cell 4 rfl; have z5 := HXK.out.cell 5 rfl; have z6 := HXK.out.cell 6 rfl; have z7 := HXK.out.cell 7 rfl; have f0 := HXK.out.free 0; have f1 := HXK.out.free 1; have f2 := HXK.out.free 2; have f3 := HXK.out.free 3; have f4 := HXK.out.free 4; have f5 := HXK.out.free 5; have f6 := HXK.out.free 6; have f7 := HXK.out.free 7))
      show bodyPost _ _ _ _ _ (st8 w3 w.heap.size { scheme := u })
      exact bodyPost_ret (ret46 (p := 2) (t2 := 3) rfl _ _ w.heap.size { scheme := u } (.bool true) rfl rfl (st8_has (x := { scheme := u }) HXK.out)) rfl (src_done { scheme := u } true rfl HB3.out (fun y hy => Option.some.inj hy))
end Go.Proofs.YtempmmkdppelaaaGreatDoor
