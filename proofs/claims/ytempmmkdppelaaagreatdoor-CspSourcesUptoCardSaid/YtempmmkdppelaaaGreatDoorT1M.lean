/-
  csp's putPort.
-/
import Derived.Test.YtempmmkdppelaaaGreatDoorS7M
import Derived.Lib.AtoiErrMem
namespace Go.Proofs.YtempmmkdppelaaaGreatDoor
open Go.RowKit
/-- what decimal digits say -/
def decV (l : List UInt8) : Nat := l.foldl (fun a b => a * 10 + (b.toNat - 48)) 0
theorem decFrom_dig : ∀ (l : List UInt8) (a : Nat), l.all digB = true → Lib.decFrom a l = some (l.foldl (fun a b => a * 10 + (b.toNat - 48)) a)
  | [], a, _ => rfl
  | b :: l, a, h => by
    rw [List.all_cons, Bool.and_eq_true] at h
    have hb : 48 ≤ b.toNat ∧ b.toNat ≤ 57 := by
      have := h.1; unfold digB at this
      rw [Bool.and_eq_true] at this
      exact ⟨of_decide_eq_true this.1, of_decide_eq_true this.2⟩
    unfold Lib.decFrom Lib.digitVal
    rw [if_pos hb]
    simp only [List.foldl_cons]
    exact decFrom_dig l _ h.2
theorem atoi_dig (l : List UInt8) (h : madeB digB l = true) : Lib.atoi l = some ((decV l : Nat) : Int) := by
  unfold madeB at h
  rw [Bool.and_eq_true] at h
  cases l with
  | nil => simp at h
  | cons b l =>
    have hb : 48 ≤ b.toNat ∧ b.toNat ≤ 57 := by
      have := h.1
      rw [List.all_cons, Bool.and_eq_true] at this
      have := this.1; unfold digB at this
      rw [Bool.and_eq_true] at this
      exact ⟨of_decide_eq_true this.1, of_decide_eq_true this.2⟩
    have h1 : (b == 45) = false := by rw [beq_eq_false_iff_ne]; intro e; subst e; have := hb.1; simp at this
    have h2 : (b == 43) = false := by rw [beq_eq_false_iff_ne]; intro e; subst e; have := hb.1; simp at this
    unfold Lib.atoi
    simp only [h1, h2, Bool.false_eq_true, if_false]
    unfold Lib.decNat
    rw [decFrom_dig _ _ h.1]
    rfl
/-- what putPort makes of a source expression, and what it answers -/
def portR (x : Src) (s : List UInt8) : Src × Bool :=
  if s = [] then (x, true) else
  if Lib.trimPrefix s [58] = [42] then ({ x with anyPort := true }, true) else
  if (madeB digB (Lib.trimPrefix s [58]) && decide ((Lib.trimPrefix s [58]).length ≤ 5)) = true then ({ x with hasPort := true, port := (decV (Lib.trimPrefix s [58]) : Nat) }, decide (decV (Lib.trimPrefix s [58]) ≤ 65535)) else (x, false)
/-- it has turned the block of x alone -/
def PutRet (bx : Nat) (r : Src × Bool) (w : World) (e : Ending) (w' : World) : Prop := e = .returned (.bool r.2) ∧ Has w' bx (.cells r.1.cs 46) ∧ Below bx w w'
theorem has_any {w : World} {b : Nat} {x : Src} (h : Has w b (.cells x.cs 46)) : Has (w.setCell ⟨b, 6, none⟩ (.bool true)) b (.cells ({ x with anyPort := true } : Src).cs 46) := by
  have := h.set 6 (.bool true)
  simpa only [Src.cs, List.setIfInBounds_toArray, List.set_cons_zero, List.set_cons_succ] using this
theorem has_hasP {w : World} {b : Nat} {x : Src} (h : Has w b (.cells x.cs 46)) : Has (w.setCell ⟨b, 5, none⟩ (.bool true)) b (.cells ({ x with hasPort := true } : Src).cs 46) := by
  have := h.set 5 (.bool true)
  simpa only [Src.cs, List.setIfInBounds_toArray, List.set_cons_zero, List.set_cons_succ] using this
theorem has_port {w : World} {b : Nat} {x : Src} (n : Int) (h : Has w b (.cells x.cs 46)) : Has (w.setCell ⟨b, 4, none⟩ (.int .i64 n)) b (.cells ({ x with port := n } : Src).cs 46) := by
  have := h.set 4 (.int .i64 n)
  simpa only [Src.cs, List.setIfInBounds_toArray, List.set_cons_zero, List.set_cons_succ] using this
set_option maxHeartbeats 2000000 in
set_option maxRecDepth 100000 in
theorem putPort_is (bx : Nat) (x : Src) (s : ByteArray) (hs : s.size ≤ 2097152) (w : World) (h : Has w bx (.cells x.cs 46)) :
    Calls Tryz.prog 94 #[.pointer (some ⟨bx, 0, none⟩), .string s] w (PutRet bx (portR x s.data.toList) w) := by
  unfold portR
  have hlt := h.lt
  have H := Lib.hid h
  by_cases h0 : s.data.toList = []
  · have he : s.toList.isEmpty = true := by rw [ByteArray.toList_eq, h0]; rfl
    rw [if_pos h0]
    clear h0 h
    go_enter Tryz.func94, Tryz.ntmps94
    go_wp2_with fail
    go_ret
    exact ⟨rfl, H.out, Below.refl _ _⟩
  · have he : s.toList.isEmpty = false := by
      rw [ByteArray.toList_eq]
      cases hc : s.data.toList with
      | nil => exact absurd hc h0
      | cons _ _ => rfl
    rw [if_neg h0]
    have HP := Lib.hid (fun W : World => Tryz.strings_TrimPrefix s ⟨#[58]⟩ W)
    rw [show (⟨#[58]⟩ : ByteArray).data.toList = [58] from rfl] at HP
    have hml : (⟨(Lib.trimPrefix s.data.toList [58]).toArray⟩ : ByteArray).size ≤ 2097152 := by
      rw [← Ks.len_list]
      refine Nat.le_trans ?_ (show s.data.toList.length ≤ 2097152 by rw [Ks.len_list]; exact hs)
      unfold Lib.trimPrefix; split
      · show (List.drop _ _).length ≤ _
        rw [List.length_drop]; omega
      · exact Nat.le_refl _
    generalize hl : Lib.trimPrefix s.data.toList [58] = l at *
    obtain ⟨t, ht⟩ : ∃ t : ByteArray, t = ⟨l.toArray⟩ := ⟨_, rfl⟩
    have htl : l = t.data.toList := by rw [ht]
    rw [← ht] at HP hml
    rw [htl]
    clear ht hl htl h0
    by_cases h1 : t.data.toList = [42]
    · have g1 : (t.toList == [42]) = true := by rw [ByteArray.toList_eq, h1]; rfl
      rw [if_pos h1]
      have z6 := h.cell 6 rfl
      have f6 := h.free 6
      clear h1 h
      go_enter Tryz.func94, Tryz.ntmps94
      go_wp2_with (go_at_call 108; refine (HP.out _).mono ?_; rintro e w1 ⟨rfl, rfl⟩)
      go_ret
      exact ⟨rfl, has_any H.out, (Below.refl _ _).setCell (p := ⟨bx, 6, none⟩) (Nat.le_refl _) _⟩
    · have g1 : (t.toList == [42]) = false := by rw [ByteArray.toList_eq]; exact beq_eq_false_iff_ne.2 h1
      rw [if_neg h1]
      clear h1
      obtain ⟨r, hr⟩ : ∃ r, madeB digB t.data.toList = r := ⟨_, rfl⟩
      have HD := Lib.hid (fun (W : World) => made_digit t (by omega) r hr W)
      rw [hr]
      cases r with
      | false =>
        rw [if_neg (by simp)]
        clear hr h
        go_enter Tryz.func94, Tryz.ntmps94
        go_wp2_with (first | (go_at_call 108; refine (HP.out _).mono ?_; rintro e w1 ⟨rfl, rfl⟩) | (go_at_call 102; refine (HD.out _).mono ?_; rintro e w2 ⟨rfl, hb2⟩))
        go_ret
        exact ⟨rfl, H.out.to (hb2.mono (Nat.le_refl _)), hb2.mono (by omega)⟩
      | true =>
        by_cases h5 : t.size ≤ 5
        · have g5 : decide ((5 : Int) < (t.size : Int)) = false := decide_eq_false (by omega)
          rw [if_pos (by rw [Ks.len_list]; simp; omega)]
          have hA := atoi_dig _ hr
          have HA := Lib.hid (fun W : World => Tryz.strconv_Atoi t _ (by omega) hA W)
          clear hr hA h
          generalize decV t.data.toList = n at *
          go_enter Tryz.func94, Tryz.ntmps94
          go_wp2_with (first | (go_at_call 108; refine (HP.out _).mono ?_; rintro e w1 ⟨rfl, rfl⟩) | (go_at_call 102; refine (HD.out _).mono ?_; rintro e w2 ⟨rfl, hb2⟩; have H2 := Lib.hid (H.out.to hb2); have z5 := H2.out.cell 5 rfl; have f5 := H2.out.free 5; have hz2 := hb2.size; have HB2 := Lib.hid (hb2.mono (show bx ≤ _ by omega)); clear hb2))
          have H3 := Lib.hid (has_hasP H2.out)
          have HB3 := Lib.hid (HB2.out.setCell (p := ⟨bx, 5, none⟩) (Nat.le_refl _) (.bool true))
          have hz3 : bx < (w2.setCell ⟨bx, 5, none⟩ (.bool true)).heap.size := H3.out.lt
          generalize w2.setCell ⟨bx, 5, none⟩ (.bool true) = w3 at *
          refine (HA.out _).mono ?_
          rintro e w4 ⟨rfl, q, hq⟩
          have hb4 : Below w3.heap.size w3 w4 := hq ▸ Lib.bytesWorld_below _ _ _
          have H4 := Lib.hid (H3.out.to hb4)
          have HB4 := Lib.hid (HB3.out.trans (hb4.mono (show bx ≤ _ by omega)))
          have z4 := H4.out.cell 4 rfl
          have f4 := H4.out.free 4
          have y4 : (w4.setCell ⟨bx, 4, none⟩ (.int .i64 n)).cell? ⟨bx, 4, none⟩ = some (.int .i64 n) := (has_port n H4.out).cell 4 rfl
          clear hq hb4 H3 HB3 H2 HB2 H HA HP HD
          go_wp2_with fail
          go_ret
          exact ⟨ret_bool (by simp; omega), has_port n H4.out, HB4.out.setCell (p := ⟨bx, 4, none⟩) (Nat.le_refl _) _⟩
        · have g5 : decide ((5 : Int) < (t.size : Int)) = true := decide_eq_true (by omega)
          rw [if_neg (by rw [Ks.len_list]; simp; omega)]
          clear hr h
          go_enter Tryz.func94, Tryz.ntmps94
          go_wp2_with (first | (go_at_call 108; refine (HP.out _).mono ?_; rintro e w1 ⟨rfl, rfl⟩) | (go_at_call 102; refine (HD.out _).mono ?_; rintro e w2 ⟨rfl, hb2⟩))
          go_ret
          exact ⟨rfl, H.out.to (hb2.mono (Nat.le_refl _)), hb2.mono (by omega)⟩
end Go.Proofs.YtempmmkdppelaaaGreatDoor
