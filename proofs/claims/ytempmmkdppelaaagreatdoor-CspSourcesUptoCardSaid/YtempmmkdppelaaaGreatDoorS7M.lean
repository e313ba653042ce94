import Derived.Test.YtempmmkdppelaaaGreatDoorS6M
/-
  csp's nonce.
-/
namespace Go.Proofs.YtempmmkdppelaaaGreatDoor
open Go.RowKit
def nonceM : ByteArray := ⟨#[110, 111, 110, 99, 101, 45]⟩
def nonceP (s : List UInt8) : Option Src :=
  match markedP s nonceM.data.toList with
  | some t => if codeB t then some { text := ⟨t.toArray⟩ } else none
  | none => none
theorem marked_arr {s beg : List UInt8} {n : Nat} (h : s.length ≤ n) : (⟨((markedP s beg).getD []).toArray⟩ : ByteArray).size ≤ n := by
  rw [← Ks.len_list]
  exact Nat.le_trans (marked_len s beg) h
set_option maxHeartbeats 4000000 in
set_option maxRecDepth 100000 in
theorem nonce_is (s : ByteArray) (hs : s.size ≤ 2097152) (w : World) :
    Calls Tryz.prog 66 #[.string s] w (RdRet (nonceP s.data.toList) w) := by
  have HM := Lib.hid (fun (W : World) => marked_is s nonceM hs (by decide) _ rfl W)
  unfold nonceP
  have hml := marked_arr (beg := nonceM.data.toList) (show s.data.toList.length ≤ 2097152 by rw [Ks.len_list]; exact hs)
  generalize markedP s.data.toList nonceM.data.toList = m at *
  unfold optS nonceM at HM
  obtain ⟨X, hX⟩ : ∃ X, w.alloc (.cells #[.int .u8 0, .string ⟨#[]⟩, .string ⟨#[]⟩, .bool false, .int .i64 0, .bool false, .bool false, .string ⟨#[]⟩] 46) = X := ⟨_, rfl⟩
  have hXb : Has X w.heap.size (.cells ({} : Src).cs 46) := hX ▸ Has.new w _
  have HXB := Lib.hid hXb
  have HB0 := Lib.hid (show Below w.heap.size w X from hX ▸ bnew w _)
  clear hXb
  obtain ⟨t, ht⟩ : ∃ t : ByteArray, t = ⟨(m.getD []).toArray⟩ := ⟨_, rfl⟩
  rw [← ht] at HM hml
  have HC := Lib.hid (fun (W : World) => clone_is t W (by omega))
  cases m with
  | none =>
    clear ht
    rw [show (none : Option (List UInt8)).isSome = false from rfl] at HM
    simp only
    go_enter Tryz.func66, Tryz.ntmps66
    go_wp2_with (first | (go_at_call 87; refine (HM.out _).mono ?_; rintro e w1 ⟨rfl, hb1⟩; have HXK1 := Lib.hid (HXB.out.to hb1); have HB1 := Lib.hid (HB0.out.trans (hb1.mono HB0.out.size)); clear hb1) | (go_at_call 46; refine (HC.out _).mono ?_; rintro e w2 ⟨rfl, hb2⟩; have HXK := Lib.hid (HXK1.out.to hb2); have HB2 := Lib.hid (HB1.out.trans (hb2.mono HB1.out.size)); clear hb2; have z0 := HXK.out.cell 0 rfl; have z1 := HXK.out.cell 1 rfl; have z2 := HXK.out.cell 2 rfl; have z3 := HXK.out.cell 3 rfl; have z4 := HXK.out.cell 4 rfl; have z5 := HXK.out.cell 5 rfl; have z6 := HXK.out.cell 6 rfl; have z7 := HXK.out.cell 7 rfl; have f0 := HXK.out.free 0; have f1 := HXK.out.free 1; have f2 := HXK.out.free 2; have f3 := HXK.out.free 3; have f4 := HXK.out.free 4; have f5 := HXK.out.free 5; have f6 := HXK.out.free 6; have f7 := HXK.out.free 7))
    show bodyPost _ _ _ _ _ (st8 w2 w.heap.size { text := t })
    exact bodyPost_ret (ret46 (p := 2) (t2 := 3) rfl _ _ w.heap.size { text := t } (.bool false) rfl rfl (st8_has (x := { text := t }) HXK.out)) rfl (src_done { text := t } false rfl HB2.out (fun y hy => by cases hy))
  | some l =>
    have htl : t.data.toList = l := by rw [ht]; rfl
    obtain ⟨r, hr⟩ : ∃ r, codeB t.data.toList = r := ⟨_, rfl⟩
    have HD := Lib.hid (fun (W : World) => code_is t hml r hr W)
    rw [htl] at hr
    have HR := Lib.hid (show (match (some l : Option (List UInt8)) with | some t => if codeB t = true then some { text := ⟨t.toArray⟩ } else none | none => none : Option Src) = if r = true then some { text := t } else none by rw [ht]; simp only [hr]; rfl)
    rw [HR.out]
    clear ht htl hr HR
    rw [show (some l : Option (List UInt8)).isSome = true from rfl] at HM
    cases r with
    | true =>
      go_enter Tryz.func66, Tryz.ntmps66
      go_wp2_with (first | (go_at_call 87; refine (HM.out _).mono ?_; rintro e w1 ⟨rfl, hb1⟩; have HXK1 := Lib.hid (HXB.out.to hb1); have HB1 := Lib.hid (HB0.out.trans (hb1.mono HB0.out.size)); clear hb1) | (go_at_call 46; refine (HC.out _).mono ?_; rintro e w2 ⟨rfl, hb2⟩; have HXK2 := Lib.hid (HXK1.out.to hb2); have HB2 := Lib.hid (HB1.out.trans (hb2.mono HB1.out.size)); clear hb2) | (go_at_call 88; refine (HD.out _).mono ?_; rintro e w3 ⟨rfl, hb3⟩; have HXK := Lib.hid (HXK2.out.to hb3); have HB3 := Lib.hid (HB2.out.trans (hb3.mono HB2.out.size)); clear hb3; have z0 := HXK.out.cell 0 rfl; have z1 := HXK.out.cell 1 rfl; have z2 := HXK.out.cell 2 rfl; have z3 := HXK.out.cell 3 rfl; have z4 := HXK.out.cell 4 rfl; have z5 := HXK.out.cell 5 rfl; have z6 := HXK.out.cell 6 rfl; have z7 := HXK.out.cell 7 rfl; have f0 := HXK.out.free 0; have f1 := HXK.out.free 1; have f2 := HXK.out.free 2; have f3 := HXK.out.free 3; have f4 := HXK.out.free 4; have f5 := HXK.out.free 5; have f6 := HXK.out.free 6; have f7 := HXK.out.free 7))
      show bodyPost _ _ _ _ _ (st8 w3 w.heap.size { text := t })
      exact bodyPost_ret (ret46 (p := 2) (t2 := 3) rfl _ _ w.heap.size { text := t } (.bool true) rfl rfl (st8_has (x := { text := t }) HXK.out)) rfl (src_done { text := t } true rfl HB3.out (fun y hy => Option.some.inj hy))
    | false =>
      go_enter Tryz.func66, Tryz.ntmps66
      go_wp2_with (first | (go_at_call 87; refine (HM.out _).mono ?_; rintro e w1 ⟨rfl, hb1⟩; have HXK1 := Lib.hid (HXB.out.to hb1); have HB1 := Lib.hid (HB0.out.trans (hb1.mono HB0.out.size)); clear hb1) | (go_at_call 46; refine (HC.out _).mono ?_; rintro e w2 ⟨rfl, hb2⟩; have HXK2 := Lib.hid (HXK1.out.to hb2); have HB2 := Lib.hid (HB1.out.trans (hb2.mono HB1.out.size)); clear hb2) | (go_at_call 88; refine (HD.out _).mono ?_; rintro e w3 ⟨rfl, hb3⟩; have HXK := Lib.hid (HXK2.out.to hb3); have HB3 := Lib.hid (HB2.out.trans (hb3.mono HB2.out.size)); clear hb3; have z0 := HXK.out.cell 0 rfl; have z1 := HXK.out.cell 1 rfl; have z2 := HXK.out.cell 2 rfl; have z3 := HXK.out.cell 3 rfl; have z4 := HXK.out.cell 4 rfl; have z5 := HXK.out.cell 5 rfl; have z6 := HXK.out.cell 6 rfl; have z7 := HXK.out.cell 7 rfl; have f0 := HXK.out.free 0; have f1 := HXK.out.free 1; have f2 := HXK.out.free 2; have f3 := HXK.out.free 3; have f4 := HXK.out.free 4; have f5 := HXK.out.free 5; have f6 := HXK.out.free 6; have f7 := HXK.out.free 7))
      show bodyPost _ _ _ _ _ (st8 w3 w.heap.size { text := t })
      exact bodyPost_ret (ret46 (p := 2) (t2 := 3) rfl _ _ w.heap.size { text := t } (.bool false) rfl rfl (st8_has (x := { text := t }) HXK.out)) rfl (src_done { text := t } false rfl HB3.out (fun y hy => by cases hy))
end Go.Proofs.YtempmmkdppelaaaGreatDoor
/-
  csp's scheme.
-/
namespace Go.Proofs.YtempmmkdppelaaaGreatDoor
open Go.RowKit
def schemeP (s : List UInt8) : Option Src :=
  if (Lib.hasSuffix s [58] && schemeB (Lib.trimSuffix s [58])) = true then some { scheme := lowS ⟨(Lib.trimSuffix s [58]).toArray⟩ } else none
theorem suff_len (s : List UInt8) (c : List UInt8) : (Lib.trimSuffix s c).length ≤ s.length := by
  unfold Lib.trimSuffix; split
  · rw [List.length_take]; omega
  · exact Nat.le_refl _
set_option maxHeartbeats 4000000 in
set_option maxRecDepth 100000 in
theorem scheme_is (s : ByteArray) (hs : s.size ≤ 2097152) (w : World) :
    Calls Tryz.prog 68 #[.string s] w (RdRet (schemeP s.data.toList) w) := by
  have HM := Lib.hid (fun (W : World) => Tryz.strings_CutSuffix s ⟨#[58]⟩ W (by omega))
  unfold schemeP
  rw [show (⟨#[58]⟩ : ByteArray).data.toList = [58] from rfl] at HM
  have hml : (⟨(Lib.trimSuffix s.data.toList [58]).toArray⟩ : ByteArray).size ≤ 2097152 := by
    rw [← Ks.len_list]
    refine Nat.le_trans (suff_len _ _) ?_
    rw [Ks.len_list]; exact hs
  obtain ⟨X, hX⟩ : ∃ X, w.alloc (.cells #[.int .u8 0, .string ⟨#[]⟩, .string ⟨#[]⟩, .bool false, .int .i64 0, .bool false, .bool false, .string ⟨#[]⟩] 46) = X := ⟨_, rfl⟩
  have hXb : Has X w.heap.size (.cells ({} : Src).cs 46) := hX ▸ Has.new w _
  have HXB := Lib.hid hXb
  have HB0 := Lib.hid (show Below w.heap.size w X from hX ▸ bnew w _)
  clear hXb
  generalize Lib.hasSuffix s.data.toList [58] = q at *
  generalize hl : Lib.trimSuffix s.data.toList [58] = l at *
  obtain ⟨t, ht⟩ : ∃ t : ByteArray, t = ⟨l.toArray⟩ := ⟨_, rfl⟩
  have htl : l = t.data.toList := by rw [ht]
  rw [← ht] at HM hml ⊢
  rw [htl]
  have HL := Lib.hid (show ∀ W : World, Calls Tryz.prog 35 #[.string t] W fun e w' => e = .returned (.string (lowS t)) ∧ Below W.heap.size W w' from fun W => lower_any t (by unfold maxLen; omega) W)
  obtain ⟨r, hr⟩ : ∃ r, schemeB t.data.toList = r := ⟨_, rfl⟩
  have HD := Lib.hid (fun (W : World) => isScheme_is t hml r hr W)
  rw [hr]
  generalize lowS t = u at *
  clear hr htl ht hl
  cases q with
  | false =>
    rw [if_neg (by simp)]
    go_enter Tryz.func68, Tryz.ntmps68
    go_wp2_with (first | (go_at_call 89; refine (HM.out _).mono ?_; rintro e w1 ⟨rfl, rfl⟩) | (go_at_call 35; refine (HL.out _).mono ?_; rintro e w2 ⟨rfl, hb2⟩; have HXK := Lib.hid (HXB.out.to hb2); have HB2 := Lib.hid (HB0.out.trans (hb2.mono HB0.out.size)); clear hb2; have z0 := HXK.out.cell 0 rfl; have z1 := HXK.out.cell 1 rfl; have z2 := HXK.out.cell 2 rfl; have z3 := HXK.out.cell 3 rfl; have z4 := HXK.out.cell 4 rfl; have z5 := HXK.out.cell 5 rfl; have z6 := HXK.out.cell 6 rfl; have z7 := HXK.out.cell 7 rfl; have f0 := HXK.out.free 0; have f1 := HXK.out.free 1; have f2 := HXK.out.free 2; have f3 := HXK.out.free 3; have f4 := HXK.out.free 4; have f5 := HXK.out.free 5; have f6 := HXK.out.free 6; have f7 := HXK.out.free 7))
    show bodyPost _ _ _ _ _ (st8 w2 w.heap.size { scheme := u })
    exact bodyPost_ret (ret46 (p := 2) (t2 := 3) rfl _ _ w.heap.size { scheme := u } (.bool false) rfl rfl (st8_has (x := { scheme := u }) HXK.out)) rfl (src_done { scheme := u } false rfl HB2.out (fun y hy => by cases hy))
  | true =>
    cases r with
    | false =>
      rw [if_neg (by simp)]
      go_enter Tryz.func68, Tryz.ntmps68
      go_wp2_with (first | (go_at_call 89; refine (HM.out _).mono ?_; rintro e w1 ⟨rfl, rfl⟩) | (go_at_call 35; refine (HL.out _).mono ?_; rintro e w2 ⟨rfl, hb2⟩; have HXK2 := Lib.hid (HXB.out.to hb2); have HB2 := Lib.hid (HB0.out.trans (hb2.mono HB0.out.size)); clear hb2) | (go_at_call 90; refine (HD.out _).mono ?_; rintro e w3 ⟨rfl, hb3⟩; have HXK := Lib.hid (HXK2.out.to hb3); have HB3 := Lib.hid (HB2.out.trans (hb3.mono HB2.out.size)); clear hb3; have z0 := HXK.out.cell 0 rfl; have z1 := HXK.out.cell 1 rfl; have z2 := HXK.out.cell 2 rfl; have z3 := HXK.out.cell 3 rfl; have z4 := HXK.out.cell 4 rfl; have z5 := HXK.out.cell 5 rfl; have z6 := HXK.out.cell 6 rfl; have z7 := HXK.out.cell 7 rfl; have f0 := HXK.out.free 0; have f1 := HXK.out.free 1; have f2 := HXK.out.free 2; have f3 := HXK.out.free 3; have f4 := HXK.out.free 4; have f5 := HXK.out.free 5; have f6 := HXK.out.free 6; have f7 := HXK.out.free 7))
      show bodyPost _ _ _ _ _ (st8 w3 w.heap.size { scheme := u })
      exact bodyPost_ret (ret46 (p := 2) (t2 := 3) rfl _ _ w.heap.size { scheme := u } (.bool false) rfl rfl (st8_has (x := { scheme := u }) HXK.out)) rfl (src_done { scheme := u } false rfl HB3.out (fun y hy => by cases hy))
    | true =>
      rw [if_pos (by simp)]
      go_enter Tryz.func68, Tryz.ntmps68
      go_wp2_with (first | (go_at_call 89; refine (HM.out _).mono ?_; rintro e w1 ⟨rfl, rfl⟩) | (go_at_call 35; refine (HL.out _).mono ?_; rintro e w2 ⟨rfl, hb2⟩; have HXK2 := Lib.hid (HXB.out.to hb2); have HB2 := Lib.hid (HB0.out.trans (hb2.mono HB0.out.size)); clear hb2) | (go_at_call 90; refine (HD.out _).mono ?_; rintro e w3 ⟨rfl, hb3⟩; have HXK := Lib.hid (HXK2.out.to hb3); have HB3 := Lib.hid (HB2.out.trans (hb3.mono HB2.out.size)); clear hb3; have z0 := HXK.out.cell 0 rfl; have z1 := HXK.out.cell 1 rfl; have z2 := HXK.out.cell 2 rfl; have z3 := HXK.out.cell 3 rfl; have z4 := HXK.out.cell 4 rfl; have z5 := HXK.out.cell 5 rfl; have z6 := HXK.out.cell 6 rfl; have z7 := HXK.out.cell 7 rfl; have f0 := HXK.out.free 0; have f1 := HXK.out.free 1; have f2 := HXK.out.free 2; have f3 := HXK.out.free 3; have f4 := HXK.out.free 4; have f5 := HXK.out.free 5; have f6 := HXK.out.free 6; have f7 := HXK.out.free 7))
      show bodyPost _ _ _ _ _ (st8 w3 w.heap.size { scheme := u })
      exact bodyPost_ret (ret46 (p := 2) (t2 := 3) rfl _ _ w.heap.size { scheme := u } (.bool true) rfl rfl (st8_has (x := { scheme := u }) HXK.out)) rfl (src_done { scheme := u } true rfl HB3.out (fun y hy => Option.some.inj hy))
end Go.Proofs.YtempmmkdppelaaaGreatDoor
/-
  csp's hash.
-/
namespace Go.Proofs.YtempmmkdppelaaaGreatDoor
open Go.RowKit
def hN : List ByteArray := [⟨#[115, 104, 97, 50, 53, 54]⟩, ⟨#[115, 104, 97, 51, 56, 52]⟩, ⟨#[115, 104, 97, 53, 49, 50]⟩]
def hashAt (s : List UInt8) (n : ByteArray) : Option Src :=
  match markedP s (n ++ ⟨#[45]⟩ : ByteArray).data.toList with
  | some t => if codeB t then some { scheme := n, text := ⟨t.toArray⟩ } else none
  | none => none
def hashP (s : List UInt8) : Option Src := hN.findSome? (hashAt s)
theorem find_hit {α β : Type} (f : α → Option β) : ∀ (l : List α) (k : Nat) (x : α) (y : β), (∀ j z, j < k → l[j]? = some z → f z = none) → l[k]? = some x → f x = some y → l.findSome? f = some y
  | [], k, x, y, _, h, _ => by simp at h
  | a :: l, 0, x, y, _, h, hy => by simp at h; subst h; rw [List.findSome?_cons, hy]
  | a :: l, k + 1, x, y, hn, h, hy => by
    rw [List.findSome?_cons, hn 0 a (by omega) rfl]
    exact find_hit f l k x y (fun j z hj hz => hn (j + 1) z (by omega) (by simpa using hz)) (by simpa using h) hy
theorem find_miss {α β : Type} (f : α → Option β) (l : List α) (h : ∀ (j : Nat) z, l[j]? = some z → f z = none) : l.findSome? f = none := by
  rw [List.findSome?_eq_none_iff]
  intro x hx
  obtain ⟨i, hi, rfl⟩ := List.getElem_of_mem hx
  exact h i _ (getT hi)
theorem hn_len : hN.length = 3 := rfl
set_option maxHeartbeats 4000000 in
set_option maxRecDepth 100000 in
theorem hash_is (s : ByteArray) (hs : s.size ≤ 2097152) (w : World) :
    Calls Tryz.prog 67 #[.string s] w (RdRet (hashP s.data.toList) w) := by
  obtain ⟨X, hX⟩ : ∃ X, w.alloc (.cells #[.int .u8 0, .string ⟨#[]⟩, .string ⟨#[]⟩, .bool false, .int .i64 0, .bool false, .bool false, .string ⟨#[]⟩] 46) = X := ⟨_, rfl⟩
  have hXb : Has X w.heap.size (.cells ({} : Src).cs 46) := hX ▸ Has.new w _
  have HXB := Lib.hid hXb
  have HB0 := Lib.hid (show Below w.heap.size w X from hX ▸ bnew w _)
  have hz : X.heap.size = w.heap.size + 1 := by rw [← hX]; simp
  have HSZ := Lib.hid hz
  clear hXb
  go_enter Tryz.func67, Tryz.ntmps67
  go_wp2_with fail
  obtain ⟨Y, hY⟩ : ∃ Y, X.alloc (.cells #[.string ⟨#[115, 104, 97, 50, 53, 54]⟩, .string ⟨#[115, 104, 97, 51, 56, 52]⟩, .string ⟨#[115, 104, 97, 53, 49, 50]⟩] 9) = Y := ⟨_, rfl⟩
  rw [hY]
  have HYB := Lib.hid (show Has Y w.heap.size (.cells ({} : Src).cs 46) from hY ▸ HXB.out.alloc _)
  have HYS := Lib.hid (show Has Y (w.heap.size + 1) (.cells (hN.map Value.string).toArray 9) from by rw [← hY, ← hz]; exact Has.new X _)
  have HBY := Lib.hid (show Below w.heap.size w Y from hY ▸ HB0.out.alloc (by omega) _)
  clear hX hY hz HXB HB0 HSZ
  clear X
  go_loopw [10] (fun i wr => ∃ k : Nat, k ≤ 3 ∧ i = .int .i64 k ∧ Hid (∀ (j : Nat) z, j < k → hN[j]? = some z → hashAt s.data.toList z = none) ∧ Hid (Below Y.heap.size Y wr)) (fun i _ => 3 - (intOf i).toNat)
  case atStart => exact ⟨0, by omega, rfl, Lib.hid (by intro j x hj; omega), Lib.hid (Below.refl _ _)⟩
  case round =>
    obtain ⟨k, hk, rfl, HE, HB⟩ := hrel
    by_cases hlt : k < 3
    · obtain ⟨n, hn⟩ : ∃ n, hN[k]? = some n := ⟨_, getT (by rw [hn_len]; exact hlt)⟩
      have hns : n.size = 6 := by
        have : k = 0 ∨ k = 1 ∨ k = 2 := by omega
        rcases this with rfl | rfl | rfl <;> (cases hn; rfl)
      have hc := (HYS.out.to HB.out).cell k (v := .string n) (by rw [List.getElem?_toArray, List.getElem?_map, hn]; rfl)
      have i1 : (k : Int) < 3 := by omega
      have i2 : ¬ 9223372036854775807 < n.size + 1 := by omega
      have HM := Lib.hid (fun (W : World) => marked_is s (n ++ ⟨#[45]⟩) hs (by rw [ByteArray.size_append, hns]; decide) _ rfl W)
      obtain ⟨a, ha⟩ : ∃ a, hashAt s.data.toList n = a := ⟨_, rfl⟩
      have HH := Lib.hid (show ∀ x : Src, a = some x → hashP s.data.toList = some x from fun x hx => find_hit _ _ k n x HE.out hn (by rw [ha, hx]))
      have HN := Lib.hid (show a = none → ∀ (j : Nat) z, j < k + 1 → hN[j]? = some z → hashAt s.data.toList z = none from fun he j z hj hz => by
        by_cases hjk : j = k
        · subst hjk; rw [hn] at hz; cases hz; rw [ha, he]
        · exact HE.out j z (by omega) hz)
      unfold hashAt at ha
      have hml := marked_arr (beg := (n ++ ⟨#[45]⟩ : ByteArray).data.toList) (show s.data.toList.length ≤ 2097152 by rw [Ks.len_list]; exact hs)
      generalize markedP s.data.toList (n ++ ⟨#[45]⟩ : ByteArray).data.toList = m at *
      unfold optS at HM
      obtain ⟨t, ht⟩ : ∃ t : ByteArray, t = ⟨(m.getD []).toArray⟩ := ⟨_, rfl⟩
      rw [← ht] at HM hml
      clear HE
      cases m with
      | none =>
        subst ha
        clear ht hn hns HH
        rw [show (none : Option (List UInt8)).isSome = false from rfl] at HM
        go_wp2_with (go_at_call 87; refine (HM.out _).mono ?_; rintro e w1 ⟨rfl, hb1⟩)
        go_roundw
        case rel => exact ⟨k + 1, by omega, by go_num, Lib.hid (HN.out trivial), Lib.hid (HB.out.trans (hb1.mono HB.out.size))⟩
        case measure => simp [intOf]; omega
      | some l =>
        have htl : t.data.toList = l := by rw [ht]; rfl
        obtain ⟨r, hr⟩ : ∃ r, codeB t.data.toList = r := ⟨_, rfl⟩
        have HD := Lib.hid (fun (W : World) => code_is t hml r hr W)
        rw [htl] at hr
        have ha2 : a = if r = true then some { scheme := n, text := t } else none := by rw [← ha, ht]; simp only [hr]; rfl
        clear ht htl hr ha
        rw [show (some l : Option (List UInt8)).isSome = true from rfl] at HM
        cases r with
        | false =>
          rw [if_neg (by simp)] at ha2
          subst ha2
          clear hn hns HH
          go_wp2_with (first | (go_at_call 87; refine (HM.out _).mono ?_; rintro e w1 ⟨rfl, hb1⟩) | (go_at_call 88; refine (HD.out _).mono ?_; rintro e w2 ⟨rfl, hb2⟩))
          go_roundw
          case rel => exact ⟨k + 1, by omega, by go_num, Lib.hid (HN.out trivial), Lib.hid ((HB.out.trans (hb1.mono HB.out.size)).trans (hb2.mono (Nat.le_trans HB.out.size hb1.size)))⟩
          case measure => simp [intOf]; omega
        | true =>
          rw [if_pos rfl] at ha2
          have HR := Lib.hid (HH.out _ ha2)
          have HC := Lib.hid (fun (W : World) => clone_is t W (by omega))
          have HC2 := Lib.hid (fun (W : World) => clone_is n W (by omega))
          clear ha2 HH HN hn hns
          go_wp2_with (first | (go_at_call 87; refine (HM.out _).mono ?_; rintro e w1 ⟨rfl, hb1⟩; have HB1 := Lib.hid (HB.out.trans (hb1.mono HB.out.size)); clear hb1) | (go_at_call 88; refine (HD.out _).mono ?_; rintro e w2 ⟨rfl, hb2⟩; have HB2 := Lib.hid (HB1.out.trans (hb2.mono HB1.out.size)); clear hb2))
          refine (HC2.out _).mono ?_
          rintro e w3 ⟨rfl, hb3⟩
          have HB3 := Lib.hid (HB2.out.trans (hb3.mono HB2.out.size))
          clear hb3
          go_wp2_with (go_at_call 46; refine (HC.out _).mono ?_; rintro e w4 ⟨rfl, hb4⟩; have HB4 := Lib.hid (HB3.out.trans (hb4.mono HB3.out.size)); have HXK := Lib.hid (HYB.out.to HB4.out); have HBZ := Lib.hid (HBY.out.trans (HB4.out.mono HBY.out.size)); clear hb4; have z0 := HXK.out.cell 0 rfl; have z1 := HXK.out.cell 1 rfl; have z2 := HXK.out.cell 2 rfl; have z3 := HXK.out.cell 3 rfl; have z4 := HXK.out.cell 4 rfl; have z5 := HXK.out.cell 5 rfl; have z6 := HXK.out.cell 6 rfl; have z7 := HXK.out.cell 7 rfl; have f0 := HXK.out.free 0; have f1 := HXK.out.free 1; have f2 := HXK.out.free 2; have f3 := HXK.out.free 3; have f4 := HXK.out.free 4; have f5 := HXK.out.free 5; have f6 := HXK.out.free 6; have f7 := HXK.out.free 7)
          show bodyPost _ _ _ _ _ (st8 w4 w.heap.size { scheme := n, text := t })
          exact bodyPost_ret (ret46 (p := 2) (t2 := 3) rfl _ _ w.heap.size { scheme := n, text := t } (.bool true) rfl rfl (st8_has (x := { scheme := n, text := t }) HXK.out)) rfl (src_done { scheme := n, text := t } true (by rw [HR.out]; rfl) HBZ.out (fun y hy => by rw [HR.out] at hy; exact Option.some.inj hy))
    · have hk3 : k = 3 := by omega
      have HR := Lib.hid (show hashP s.data.toList = none from find_miss _ _ fun j z hz => HE.out j z (by have := (List.getElem?_eq_some_iff.1 hz).1; rw [hn_len] at this; omega) hz)
      have HXK := Lib.hid (HYB.out.to HB.out)
      have HBZ := Lib.hid (HBY.out.trans (HB.out.mono HBY.out.size))
      have z0 := HXK.out.cell 0 rfl
      have z1 := HXK.out.cell 1 rfl
      have z2 := HXK.out.cell 2 rfl
      have z3 := HXK.out.cell 3 rfl
      have z4 := HXK.out.cell 4 rfl
      have z5 := HXK.out.cell 5 rfl
      have z6 := HXK.out.cell 6 rfl
      have z7 := HXK.out.cell 7 rfl
      have f0 := HXK.out.free 0
      have f1 := HXK.out.free 1
      have f2 := HXK.out.free 2
      have f3 := HXK.out.free 3
      have f4 := HXK.out.free 4
      have f5 := HXK.out.free 5
      have f6 := HXK.out.free 6
      have f7 := HXK.out.free 7
      subst hk3
      clear HE hlt hk
      go_wp2_with fail
      show bodyPost _ _ _ _ _ (st8 wr w.heap.size {})
      exact bodyPost_ret (ret46 (p := 2) (t2 := 3) rfl _ _ w.heap.size {} (.bool false) rfl rfl (st8_has (x := {}) HXK.out)) rfl (src_done {} false (by rw [HR.out]; rfl) HBZ.out (fun y hy => by rw [HR.out] at hy; cases hy))
end Go.Proofs.YtempmmkdppelaaaGreatDoor
