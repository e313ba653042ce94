import Derived.Test.YtempmmkdppelaaaGreatDoorS7M
import Derived.Lib.AtoiErrMem
/-
  csp's hash.
-/
namespace Go.Proofs.YtempmmkdppelaaaGreatDoor
open Go.RowKit
def hN : List ByteArray := [⟨#[115, 104, 97, 50, 53, 54]⟩, ⟨#[115, 104, 97, 51, 56, 52]⟩, ⟨#[115, 104, 97, 53, 49, 50]⟩]
def hashAt (s : List UInt8) (n : ByteArray) : Option Src :=
  match markedP s (n ++ ⟨#[45]⟩ : ByteArray).data.toList with
  | some t => if codeB t then some { scheme := n, text := ⟨t.toArray⟩ } else none
  | none => none
def hashP (s : List UInt8) : Option Src := hN.findSome? (hashAt s)
theorem find_hit {α β : Type} (f : α → Option β) : ∀ (l : List α) (k : Nat) (x : α) (y : β), (∀ j z, j < k → l[j]? = some z → f z = none) → l[k]? = some x → f x = some y → l.findSome? f = some y
  | [], k, x, y, _, h, _ => by simp at h
  | a :: l, 0, x, y, _, h, hy => by simp at h; subst h; rw [List.findSome?_cons, hy]
  | a :: l, k + 1, x, y, hn, h, hy => by
    rw [List.findSome?_cons, hn 0 a (by omega) rfl]
    exact find_hit f l k x y (fun j z hj hz => hn (j + 1) z (by omega) (by simpa using hz)) (by simpa using h) hy
theorem find_miss {α β : Type} (f : α → Option β) (l : List α) (h : ∀ (j : Nat) z, l[j]? = some z → f z = none) : l.findSome? f = none := by
  rw [List.findSome?_eq_none_iff]
  intro x hx
  obtain ⟨i, hi, rfl⟩ := List.getElem_of_mem hx
  exact h i _ (getT hi)
theorem hn_len : hN.length = 3 := rfl
set_option maxHeartbeats 4000000 in
set_option maxRecDepth 100000 in
theorem hash_is (s : ByteArray) (hs : s.size ≤ 2097152) (w : World) :
    Calls Tryz.prog 67 #[.string s] w (RdRet (hashP s.data.toList) w) := by
  obtain ⟨X, hX⟩ : ∃ X, w.alloc (.cells #[.int .u8 0, .string ⟨#[]⟩, .string ⟨#[]⟩, .bool false, .int .i64 0, .bool false, .bool false, .string ⟨#[]⟩] 46) = X := ⟨_, rfl⟩
  have hXb : Has X w.heap.size (.cells ({} : Src).cs 46) := hX ▸ Has.new w _
  have HXB := Lib.hid hXb
  have HB0 := Lib.hid (show Below w.heap.size w X from hX ▸ bnew w _)
  have hz : X.heap.size = w.heap.size + 1 := by rw [← hX]; simp
  have HSZ := Lib.hid hz
  clear hXb
  go_enter Tryz.func67, Tryz.ntmps67
  go_wp2_with fail
  obtain ⟨Y, hY⟩ : ∃ Y, X.alloc (.cells #[.string ⟨#[115, 104, 97, 50, 53, 54]⟩, .string ⟨#[115, 104, 97, 51, 56, 52]⟩, .string ⟨#[115, 104, 97, 53, 49, 50]⟩] 9) = Y := ⟨_, rfl⟩
  rw [hY]
  have HYB := Lib.hid (show Has Y w.heap.size (.cells ({} : Src).cs 46) from hY ▸ HXB.out.alloc _)
  have HYS := Lib.hid (show Has Y (w.heap.size + 1) (.cells (hN.map Value.string).toArray 9) from by rw [← hY, ← hz]; exact Has.new X _)
  have HBY := Lib.hid (show Below w.heap.size w Y from hY ▸ HB0.out.alloc (by omega) _)
  clear hX hY hz HXB HB0 HSZ
  clear X
  go_loopw [10] (fun i wr => ∃ k : Nat, k ≤ 3 ∧ i = .int .i64 k ∧ Hid (∀ (j : Nat) z, j < k → hN[j]? = some z → hashAt s.data.toList z = none) ∧ Hid (Below Y.heap.size Y wr)) (fun i _ => 3 - (intOf i).toNat)
  case atStart => exact ⟨0, by omega, rfl, Lib.hid (by intro j x hj; omega), Lib.hid (Below.refl _ _)⟩
  case round =>
    obtain ⟨k, hk, rfl, HE, HB⟩ := hrel
    by_cases hlt : k < 3
    · obtain ⟨n, hn⟩ : ∃ n, hN[k]? = some n := ⟨_, getT (by rw [hn_len]; exact hlt)⟩
      have hns : n.size = 6 := by
        have : k = 0 ∨ k = 1 ∨ k = 2 := by omega
        rcases this with rfl | rfl | rfl <;> (cases hn; rfl)
      have hc := (HYS.out.to HB.out).cell k (v := .string n) (by rw [List.getElem?_toArray, List.getElem?_map, hn]; rfl)
      have i1 : (k : Int) < 3 := by omega
      have i2 : ¬ 9223372036854775807 < n.size + 1 := by omega
      have HM := Lib.hid (fun (W : World) => marked_is s (n ++ ⟨#[45]⟩) hs (by rw [ByteArray.size_append, hns]; decide) _ rfl W)
      obtain ⟨a, ha⟩ : ∃ a, hashAt s.data.toList n = a := ⟨_, rfl⟩
      have HH := Lib.hid (show ∀ x : Src, a = some x → hashP s.data.toList = some x from fun x hx => find_hit _ _ k n x HE.out hn (by rw [ha, hx]))
      have HN := Lib.hid (show a = none → ∀ (j : Nat) z, j < k + 1 → hN[j]? = some z → hashAt s.data.toList z = none from fun he j z hj hz => by
        by_cases hjk : j = k
        · subst hjk; rw [hn] at hz; cases hz; rw [ha, he]
        · exact HE.out j z (by omega) hz)
      unfold hashAt at ha
      have hml := marked_arr (beg := (n ++ ⟨#[45]⟩ : ByteArray).data.toList) (show s.data.toList.length ≤ 2097152 by rw [Ks.len_list]; exact hs)
      generalize markedP s.data.toList (n ++ ⟨#[45]⟩ : ByteArray).data.toList = m at *
      unfold optS at HM
      obtain ⟨t, ht⟩ : ∃ t : ByteArray, t = ⟨(m.getD []).toArray⟩ := ⟨_, rfl⟩
      rw [← ht] at HM hml
      clear HE
      cases m with
      | none =>
        subst ha
        clear ht hn hns HH
        rw [show (none : Option (List UInt8)).isSome = false from rfl] at HM
        go_wp2_with (go_at_call 87; refine (HM.out _).mono ?_; rintro e w1 ⟨rfl, hb1⟩)
        go_roundw
        case rel => exact ⟨k + 1, by omega, by go_num, Lib.hid (HN.out trivial), Lib.hid (HB.out.trans (hb1.mono HB.out.size))⟩
        case measure => simp [intOf]; omega
      | some l =>
        have htl : t.data.toList = l := by rw [ht]; rfl
        obtain ⟨r, hr⟩ : ∃ r, codeB t.data.toList = r := ⟨_, rfl⟩
        have HD := Lib.hid (fun (W : World) => code_is t hml r hr W)
        rw [htl] at hr
        have ha2 : a = if r = true then some { scheme := n, text := t } else none := by rw [← ha, ht]; simp only [hr]; rfl
        clear ht htl hr ha
        rw [show (some l : Option (List UInt8)).isSome = true from rfl] at HM
        cases r with
        | false =>
          rw [if_neg (by simp)] at ha2
          subst ha2
          clear hn hns HH
          go_wp2_with (first | (go_at_call 87; refine (HM.out _).mono ?_; rintro e w1 ⟨rfl, hb1⟩) | (go_at_call 88; refine (HD.out _).mono ?_; rintro e w2 ⟨rfl, hb2⟩))
          go_roundw
          case rel => exact ⟨k + 1, by omega, by go_num, Lib.hid (HN.out trivial), Lib.hid ((HB.out.trans (hb1.mono HB.out.size)).trans (hb2.mono (Nat.le_trans HB.out.size hb1.size)))⟩
          case measure => simp [intOf]; omega
        | true =>
          rw [if_pos rfl] at ha2
          have HR := Lib.hid (HH.out _ ha2)
          have HC := Lib.hid (fun (W : World) => clone_is t W (by omega))
          have HC2 := Lib.hid (fun (W : World) => clone_is n W (by omega))
          clear ha2 HH HN hn hns
          go_wp2_with (first | (go_at_call 87; refine (HM.out _).mono ?_; rintro e w1 ⟨rfl, hb1⟩; have HB1 := Lib.hid (HB.out.trans (hb1.mono HB.out.size)); clear hb1) | (go_at_call 88; refine (HD.out _).mono ?_; rintro e w2 ⟨rfl, hb2⟩; have HB2 := Lib.hid (HB1.out.trans (hb2.mono HB1.out.size)); clear hb2))
          refine (HC2.out _).mono ?_
          rintro e w3 ⟨rfl, hb3⟩
          have HB3 := Lib.hid (HB2.out.trans (hb3.mono HB2.out.size))
          clear hb3
          go_wp2_with (go_at_call 46; refine (HC.out _).mono ?_; rintro e w4 ⟨rfl, hb4⟩; have HB4 := Lib.hid (HB3.out.trans (hb4.mono HB3.out.size)); have HXK := Lib.hid (HYB.out.to HB4.out); have HBZ := Lib.hid (HBY.out.trans (HB4.out.mono HBY.out.size)); clear hb4; have z0 := HXK.out.cell 0 rfl; have z1 := HXK.out.cell 1 rfl; have z2 := HXK.out.cell 2 rfl; have z3 := HXK.out.cell 3 rfl; have z4 := HXK.out.cell 4 rfl; have z5 := HXK.out.cell 5 rfl; have z6 := HXK.out.cell 6 rfl; have z7 := HXK.out.cell 7 rfl; have f0 := HXK.out.free 0; have f1 := HXK.out.free 1; have f2 := HXK.out.free 2; have f3 := HXK.out.free 3; have f4 := HXK.out.free 4; have f5 := HXK.out.free 5; have f6 := HXK.out.free 6; have f7 := HXK.out.free 7)
          show bodyPost _ _ _ _ _ (st8 w4 w.heap.size { scheme := n, text := t })
          exact bodyPost_ret (ret46 (p := 2) (t2 := 3) rfl _ _ w.heap.size { scheme := n, text := t } (.bool true) rfl rfl (st8_has (x := { scheme := n, text := t }) HXK.out)) rfl (src_done { scheme := n, text := t } true (by rw [HR.out]; rfl) HBZ.out (fun y hy => by rw [HR.out] at hy; exact Option.some.inj hy))
    · have hk3 : k = 3 := by omega
      have HR := Lib.hid (show hashP s.data.toList = none from find_miss _ _ fun j z hz => HE.out j z (by have := (List.getElem?_eq_some_iff.1 hz).1; rw [hn_len] at this; omega) hz)
      have HXK := Lib.hid (HYB.out.to HB.out)
      have HBZ := Lib.hid (HBY.out.trans (HB.out.mono HBY.out.size))
      have z0 := HXK.out.cell 0 rfl
      have z1 := HXK.out.cell 1 rfl
      have z2 := HXK.out.cell 2 rfl
      have z3 := HXK.out.cell 3 rfl
      have z4 := HXK.out.cell 4 rfl
      have z5 := HXK.out.cell 5 rfl
      have z6 := HXK.out.cell 6 rfl
      have z7 := HXK.out.cell 7 rfl
      have f0 := HXK.out.free 0
      have f1 := HXK.out.free 1
      have f2 := HXK.out.free 2
      have f3 := HXK.out.free 3
      have f4 := HXK.out.free 4
      have f5 := HXK.out.free 5
      have f6 := HXK.out.free 6
      have f7 := HXK.out.free 7
      subst hk3
      clear HE hlt hk
      go_wp2_with fail
      show bodyPost _ _ _ _ _ (st8 wr w.heap.size {})
      exact bodyPost_ret (ret46 (p := 2) (t2 := 3) rfl _ _ w.heap.size {} (.bool false) rfl rfl (st8_has (x := {}) HXK.out)) rfl (src_done {} false (by rw [HR.out]; rfl) HBZ.out (fun y hy => by rw [HR.out] at hy; cases hy))
end Go.Proofs.YtempmmkdppelaaaGreatDoor
/-
  csp's putPort.
-/
namespace Go.Proofs.YtempmmkdppelaaaGreatDoor
open Go.RowKit
/-- what decimal digits say -/
def decV (l : List UInt8) : Nat := l.foldl (fun a b => a * 10 + (b.toNat - 48)) 0
theorem decFrom_dig : ∀ (l : List UInt8) (a : Nat), l.all digB = true → Lib.decFrom a l = some (l.foldl (fun a b => a * 10 + (b.toNat - 48)) a)
  | [], a, _ => rfl
  | b :: l, a, h => by
    rw [List.all_cons, Bool.and_eq_true] at h
    have hb : 48 ≤ b.toNat ∧ b.toNat ≤ 57 := by
      have := h.1; unfold digB at this
      rw [Bool.and_eq_true] at this
      exact ⟨of_decide_eq_true this.1, of_decide_eq_true this.2⟩
    unfold Lib.decFrom Lib.digitVal
    rw [if_pos hb]
    simp only [List.foldl_cons]
    exact decFrom_dig l _ h.2
theorem atoi_dig (l : List UInt8) (h : madeB digB l = true) : Lib.atoi l = some ((decV l : Nat) : Int) := by
  unfold madeB at h
  rw [Bool.and_eq_true] at h
  cases l with
  | nil => simp at h
  | cons b l =>
    have hb : 48 ≤ b.toNat ∧ b.toNat ≤ 57 := by
      have := h.1
      rw [List.all_cons, Bool.and_eq_true] at this
      have := this.1; unfold digB at this
      rw [Bool.and_eq_true] at this
      exact ⟨of_decide_eq_true this.1, of_decide_eq_true this.2⟩
    have h1 : (b == 45) = false := by rw [beq_eq_false_iff_ne]; intro e; subst e; have := hb.1; simp at this
    have h2 : (b == 43) = false := by rw [beq_eq_false_iff_ne]; intro e; subst e; have := hb.1; simp at this
    unfold Lib.atoi
    simp only [h1, h2, Bool.false_eq_true, if_false]
    unfold Lib.decNat
    rw [decFrom_dig _ _ h.1]
    rfl
/-- what putPort makes of a source expression, and what it answers -/
def portR (x : Src) (s : List UInt8) : Src × Bool :=
  if s = [] then (x, true) else
  if Lib.trimPrefix s [58] = [42] then ({ x with anyPort := true }, true) else
  if (madeB digB (Lib.trimPrefix s [58]) && decide ((Lib.trimPrefix s [58]).length ≤ 5)) = true then ({ x with hasPort := true, port := (decV (Lib.trimPrefix s [58]) : Nat) }, decide (decV (Lib.trimPrefix s [58]) ≤ 65535)) else (x, false)
/-- it has turned the block of x alone -/
def PutRet (bx : Nat) (r : Src × Bool) (w : World) (e : Ending) (w' : World) : Prop := e = .returned (.bool r.2) ∧ Has w' bx (.cells r.1.cs 46) ∧ Below bx w w'
theorem has_any {w : World} {b : Nat} {x : Src} (h : Has w b (.cells x.cs 46)) : Has (w.setCell ⟨b, 6, none⟩ (.bool true)) b (.cells ({ x with anyPort := true } : Src).cs 46) := by
  have := h.set 6 (.bool true)
  simpa only [Src.cs, List.setIfInBounds_toArray, List.set_cons_zero, List.set_cons_succ] using this
theorem has_hasP {w : World} {b : Nat} {x : Src} (h : Has w b (.cells x.cs 46)) : Has (w.setCell ⟨b, 5, none⟩ (.bool true)) b (.cells ({ x with hasPort := true } : Src).cs 46) := by
  have := h.set 5 (.bool true)
  simpa only [Src.cs, List.setIfInBounds_toArray, List.set_cons_zero, List.set_cons_succ] using this
theorem has_port {w : World} {b : Nat} {x : Src} (n : Int) (h : Has w b (.cells x.cs 46)) : Has (w.setCell ⟨b, 4, none⟩ (.int .i64 n)) b (.cells ({ x with port := n } : Src).cs 46) := by
  have := h.set 4 (.int .i64 n)
  simpa only [Src.cs, List.setIfInBounds_toArray, List.set_cons_zero, List.set_cons_succ] using this
set_option maxHeartbeats 2000000 in
set_option maxRecDepth 100000 in
theorem putPort_is (bx : Nat) (x : Src) (s : ByteArray) (hs : s.size ≤ 2097152) (w : World) (h : Has w bx (.cells x.cs 46)) :
    Calls Tryz.prog 94 #[.pointer (some ⟨bx, 0, none⟩), .string s] w (PutRet bx (portR x s.data.toList) w) := by
  unfold portR
  have hlt := h.lt
  have H := Lib.hid h
  by_cases h0 : s.data.toList = []
  · have he : s.toList.isEmpty = true := by rw [ByteArray.toList_eq, h0]; rfl
    rw [if_pos h0]
    clear h0 h
    go_enter Tryz.func94, Tryz.ntmps94
    go_wp2_with fail
    go_ret
    exact ⟨rfl, H.out, Below.refl _ _⟩
  · have he : s.toList.isEmpty = false := by
      rw [ByteArray.toList_eq]
      cases hc : s.data.toList with
      | nil => exact absurd hc h0
      | cons _ _ => rfl
    rw [if_neg h0]
    have HP := Lib.hid (fun W : World => Tryz.strings_TrimPrefix s ⟨#[58]⟩ W)
    rw [show (⟨#[58]⟩ : ByteArray).data.toList = [58] from rfl] at HP
    have hml : (⟨(Lib.trimPrefix s.data.toList [58]).toArray⟩ : ByteArray).size ≤ 2097152 := by
      rw [← Ks.len_list]
      refine Nat.le_trans ?_ (show s.data.toList.length ≤ 2097152 by rw [Ks.len_list]; exact hs)
      unfold Lib.trimPrefix; split
      · show (List.drop _ _).length ≤ _
        rw [List.length_drop]; omega
      · exact Nat.le_refl _
    generalize hl : Lib.trimPrefix s.data.toList [58] = l at *
    obtain ⟨t, ht⟩ : ∃ t : ByteArray, t = ⟨l.toArray⟩ := ⟨_, rfl⟩
    have htl : l = t.data.toList := by rw [ht]
    rw [← ht] at HP hml
    rw [htl]
    clear ht hl htl h0
    by_cases h1 : t.data.toList = [42]
    · have g1 : (t.toList == [42]) = true := by rw [ByteArray.toList_eq, h1]; rfl
      rw [if_pos h1]
      have z6 := h.cell 6 rfl
      have f6 := h.free 6
      clear h1 h
      go_enter Tryz.func94, Tryz.ntmps94
      go_wp2_with (go_at_call 108; refine (HP.out _).mono ?_; rintro e w1 ⟨rfl, rfl⟩)
      go_ret
      exact ⟨rfl, has_any H.out, (Below.refl _ _).setCell (p := ⟨bx, 6, none⟩) (Nat.le_refl _) _⟩
    · have g1 : (t.toList == [42]) = false := by rw [ByteArray.toList_eq]; exact beq_eq_false_iff_ne.2 h1
      rw [if_neg h1]
      clear h1
      obtain ⟨r, hr⟩ : ∃ r, madeB digB t.data.toList = r := ⟨_, rfl⟩
      have HD := Lib.hid (fun (W : World) => made_digit t (by omega) r hr W)
      rw [hr]
      cases r with
      | false =>
        rw [if_neg (by simp)]
        clear hr h
        go_enter Tryz.func94, Tryz.ntmps94
        go_wp2_with (first | (go_at_call 108; refine (HP.out _).mono ?_; rintro e w1 ⟨rfl, rfl⟩) | (go_at_call 102; refine (HD.out _).mono ?_; rintro e w2 ⟨rfl, hb2⟩))
        go_ret
        exact ⟨rfl, H.out.to (hb2.mono (Nat.le_refl _)), hb2.mono (by omega)⟩
      | true =>
        by_cases h5 : t.size ≤ 5
        · have g5 : decide ((5 : Int) < (t.size : Int)) = false := decide_eq_false (by omega)
          rw [if_pos (by rw [Ks.len_list]; simp; omega)]
          have hA := atoi_dig _ hr
          have HA := Lib.hid (fun W : World => Tryz.strconv_Atoi t _ (by omega) hA W)
          clear hr hA h
          generalize decV t.data.toList = n at *
          go_enter Tryz.func94, Tryz.ntmps94
          go_wp2_with (first | (go_at_call 108; refine (HP.out _).mono ?_; rintro e w1 ⟨rfl, rfl⟩) | (go_at_call 102; refine (HD.out _).mono ?_; rintro e w2 ⟨rfl, hb2⟩; have H2 := Lib.hid (H.out.to hb2); have z5 := H2.out.cell 5 rfl; have f5 := H2.out.free 5; have hz2 := hb2.size; have HB2 := Lib.hid (hb2.mono (show bx ≤ _ by omega)); clear hb2))
          have H3 := Lib.hid (has_hasP H2.out)
          have HB3 := Lib.hid (HB2.out.setCell (p := ⟨bx, 5, none⟩) (Nat.le_refl _) (.bool true))
          have hz3 : bx < (w2.setCell ⟨bx, 5, none⟩ (.bool true)).heap.size := H3.out.lt
          generalize w2.setCell ⟨bx, 5, none⟩ (.bool true) = w3 at *
          refine (HA.out _).mono ?_
          rintro e w4 ⟨rfl, q, hq⟩
          have hb4 : Below w3.heap.size w3 w4 := hq ▸ Lib.bytesWorld_below _ _ _
          have H4 := Lib.hid (H3.out.to hb4)
          have HB4 := Lib.hid (HB3.out.trans (hb4.mono (show bx ≤ _ by omega)))
          have z4 := H4.out.cell 4 rfl
          have f4 := H4.out.free 4
          have y4 : (w4.setCell ⟨bx, 4, none⟩ (.int .i64 n)).cell? ⟨bx, 4, none⟩ = some (.int .i64 n) := (has_port n H4.out).cell 4 rfl
          clear hq hb4 H3 HB3 H2 HB2 H HA HP HD
          go_wp2_with fail
          go_ret
          exact ⟨ret_bool (by simp; omega), has_port n H4.out, HB4.out.setCell (p := ⟨bx, 4, none⟩) (Nat.le_refl _) _⟩
        · have g5 : decide ((5 : Int) < (t.size : Int)) = true := decide_eq_true (by omega)
          rw [if_neg (by rw [Ks.len_list]; simp; omega)]
          clear hr h
          go_enter Tryz.func94, Tryz.ntmps94
          go_wp2_with (first | (go_at_call 108; refine (HP.out _).mono ?_; rintro e w1 ⟨rfl, rfl⟩) | (go_at_call 102; refine (HD.out _).mono ?_; rintro e w2 ⟨rfl, hb2⟩))
          go_ret
          exact ⟨rfl, H.out.to (hb2.mono (Nat.le_refl _)), hb2.mono (by omega)⟩
end Go.Proofs.YtempmmkdppelaaaGreatDoor
