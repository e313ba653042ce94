/-
  csp's host.
-/
import Derived.Test.YtempmmkdppelaaaGreatDoorT2M
namespace Go.Proofs.YtempmmkdppelaaaGreatDoor
open Go.RowKit
theorem putName_is (bx : Nat) (x : Src) (s : ByteArray) (hs : s.size ≤ 2097152) (w : World) (h : Has w bx (.cells x.cs 46)) :
    Calls Tryz.prog 93 #[.pointer (some ⟨bx, 0, none⟩), .string s] w (PutRet bx (nameR x s.data.toList) w) := (callsIn_wide (n := 6)).1 (putName_box 6 (Nat.le_refl _) bx x s hs w h)
/-- the global that strings.Index reads is an integer -/
def ML (w : World) : Prop := ∃ m, w.cell? ⟨0, 0, none⟩ = some (.int .i64 m)
theorem ML.to {w w' : World} (h : ML w) (hb : Below w.heap.size w w') : ML w' := by
  obtain ⟨m, hm⟩ := h
  exact ⟨m, (hb.cell (p := ⟨0, 0, none⟩) (Lib.lt_of_cell hm)).trans hm⟩
theorem Has.to_lt {w w' : World} {B g : Nat} {o : Obj} (h : Has w g o) (hb : Below B w w') (hg : g < B) : Has w' g o := (hb.block g hg).trans h
def hostX (s : List UInt8) : Src × List UInt8 :=
  let c := Lib.cut s [58, 47, 47]
  if (c.2.2 && schemeB c.1) = true then ({ scheme := lowS ⟨c.1.toArray⟩ }, c.2.1) else ({}, s)
/-- what stands behind the scheme, read -/
def restR (x : Src) (s : List UInt8) : Src × Bool :=
  let a := cutP s [58, 47]
  let b := cutP a.2 [47]
  let n := nameR { x with path := ⟨b.2.toArray⟩ } a.1
  if n.2 = true then
    let p := portR n.1 b.1
    (p.1, p.2 && !Lib.containsAny b.2 [59, 44, 63, 35])
  else (n.1, false)
/-- a host, read -/
def hostR (s : List UInt8) : Src × Bool := restR (hostX s).1 (hostX s).2
def hostP (s : List UInt8) : Option Src := if (hostR s).2 = true then some (hostR s).1 else none
theorem cut_len (s sep : List UInt8) : (Lib.cut s sep).1.length ≤ s.length ∧ (Lib.cut s sep).2.1.length ≤ s.length := by
  unfold Lib.cut; split
  · simp only [List.length_take, List.length_drop]; omega
  · simp
theorem cutP_len (s m : List UInt8) : (cutP s m).1.length ≤ s.length ∧ (cutP s m).2.length ≤ s.length := by
  have h := congrArg List.length (cutP_cat s m)
  rw [List.length_append] at h; omega
theorem arr_len {l : List UInt8} {n : Nat} (h : l.length ≤ n) : (⟨l.toArray⟩ : ByteArray).size ≤ n := by rw [← Ks.len_list]; exact h
/-- what the calls behind the scheme answer -/
theorem host_rest (s : ByteArray) (hs : s.size ≤ 2097152) : ∃ (a1 a2 b1 b2 : ByteArray) (an : Bool),
    Hid (∀ W : World, Calls Tryz.prog 92 #[.string s, .string ⟨#[58, 47]⟩] W fun e w' => e = .returned (.tuple #[.string a1, .string a2]) ∧ Below W.heap.size W w') ∧
    Hid (∀ W : World, Calls Tryz.prog 92 #[.string a2, .string ⟨#[47]⟩] W fun e w' => e = .returned (.tuple #[.string b1, .string b2]) ∧ Below W.heap.size W w') ∧
    Hid (∀ W : World, Calls Tryz.prog 46 #[.string b2] W fun e w' => e = .returned (.string b2) ∧ Below W.heap.size W w') ∧
    Hid (∀ W : World, Calls Tryz.prog 85 #[.string b2, .string ⟨#[59, 44, 63, 35]⟩] W fun e w' => e = .returned (.bool an) ∧ Below W.heap.size W w') ∧
    a1.size ≤ 2097152 ∧ b1.size ≤ 2097152 ∧
    Hid (∀ x : Src, restR x s.data.toList = if (nameR { x with path := b2 } a1.data.toList).2 = true then ((portR (nameR { x with path := b2 } a1.data.toList).1 b1.data.toList).1, (portR (nameR { x with path := b2 } a1.data.toList).1 b1.data.toList).2 && !an) else ((nameR { x with path := b2 } a1.data.toList).1, false)) := by
  have hsl : s.data.toList.length ≤ 2097152 := by rw [Ks.len_list]; exact hs
  have l1 := cutP_len s.data.toList [58, 47]
  have ha2 := arr_len (Nat.le_trans l1.2 hsl)
  have l2 := cutP_len (cutP s.data.toList [58, 47]).2 [47]
  have hb2 := arr_len (Nat.le_trans l2.2 (Nat.le_trans l1.2 hsl))
  refine ⟨⟨(cutP s.data.toList [58, 47]).1.toArray⟩, ⟨(cutP s.data.toList [58, 47]).2.toArray⟩, ⟨(cutP (cutP s.data.toList [58, 47]).2 [47]).1.toArray⟩, ⟨(cutP (cutP s.data.toList [58, 47]).2 [47]).2.toArray⟩, Lib.containsAny (cutP (cutP s.data.toList [58, 47]).2 [47]).2 [59, 44, 63, 35], ?_, ?_, ?_, ?_, ?_, ?_, ?_⟩
  · exact Lib.hid fun W => cut_is s ⟨#[58, 47]⟩ hs (by decide) (by decide) (by unfold Asc; decide) W
  · exact Lib.hid fun W => cut_is ⟨(cutP s.data.toList [58, 47]).2.toArray⟩ ⟨#[47]⟩ ha2 (by decide) (by decide) (by unfold Asc; decide) W
  · exact Lib.hid fun W => clone_is _ W (by omega)
  · exact Lib.hid fun W => containsAny_any _ _ W (by decide) (by omega) (by unfold Asc; decide) (by decide) _ rfl
  · exact arr_len (Nat.le_trans l1.1 hsl)
  · exact arr_len (Nat.le_trans l2.1 (Nat.le_trans l1.2 hsl))
  · exact Lib.hid fun x => rfl
set_option maxHeartbeats 2000000 in
set_option maxRecDepth 100000 in
theorem host_is (s : ByteArray) (hs : s.size ≤ 2097152) (w : World) (hM : ML w) :
    Calls Tryz.prog 69 #[.string s] w (RdRet (hostP s.data.toList) w) := by
  have hsl : s.data.toList.length ≤ 2097152 := by rw [Ks.len_list]; exact hs
  obtain ⟨X, hX⟩ : ∃ X, (w.alloc (.cells #[.int .u8 0, .string ⟨#[]⟩, .string ⟨#[]⟩, .bool false, .int .i64 0, .bool false, .bool false, .string ⟨#[]⟩] 46)).alloc (.cells #[.int .u8 0, .string ⟨#[]⟩, .string ⟨#[]⟩, .bool false, .int .i64 0, .bool false, .bool false, .string ⟨#[]⟩] 46) = X := ⟨_, rfl⟩
  have HR := Lib.hid (show Has X w.heap.size (.cells ({} : Src).cs 46) from hX ▸ (Has.new w _).alloc _)
  have HX := Lib.hid (show Has X (w.heap.size + 1) (.cells ({} : Src).cs 46) by
    have := Has.new (w.alloc (.cells #[.int .u8 0, .string ⟨#[]⟩, .string ⟨#[]⟩, .bool false, .int .i64 0, .bool false, .bool false, .string ⟨#[]⟩] 46)) (.cells ({} : Src).cs 46)
    rw [World.size_alloc] at this
    exact hX ▸ this)
  have hB0 : Below w.heap.size w X := hX ▸ (bnew w _).alloc (by simp) _
  have HB := Lib.hid hB0
  obtain ⟨m, hm⟩ : ML X := hM.to hB0
  have HC := Lib.hid (Tryz.strings_Cut s ⟨#[58, 47, 47]⟩ m X (by omega) hm)
  rw [show (⟨#[58, 47, 47]⟩ : ByteArray).data.toList = [58, 47, 47] from rfl] at HC
  clear hB0 hm hM
  have hc1 := arr_len (Nat.le_trans (cut_len s.data.toList [58, 47, 47]).1 hsl)
  have hc2 := arr_len (Nat.le_trans (cut_len s.data.toList [58, 47, 47]).2 hsl)
  obtain ⟨hh, HH⟩ : ∃ hh, Hid (hostR s.data.toList = hh) := ⟨_, Lib.hid rfl⟩
  have HP := Lib.hid (show hostP s.data.toList = if hh.2 = true then some hh.1 else none by rw [← HH.out]; rfl)
  unfold hostR hostX at HH
  generalize hcc : Lib.cut s.data.toList [58, 47, 47] = c at *
  obtain ⟨c1, c2, c3⟩ := c
  simp only at HC HH hc1 hc2
  obtain ⟨t1, ht1⟩ : ∃ t : ByteArray, t = ⟨c1.toArray⟩ := ⟨_, rfl⟩
  have e1 : c1 = t1.data.toList := by rw [ht1]
  obtain ⟨t2, ht2⟩ : ∃ t : ByteArray, t = ⟨c2.toArray⟩ := ⟨_, rfl⟩
  have e2 : c2 = t2.data.toList := by rw [ht2]
  rw [← ht1] at HC HH hc1
  rw [← ht2] at HC hc2
  rw [e1, e2] at HH
  have HL := Lib.hid (show ∀ W : World, Calls Tryz.prog 35 #[.string t1] W fun e w' => e = .returned (.string (lowS t1)) ∧ Below W.heap.size W w' from fun W => lower_any t1 (by unfold maxLen; omega) W)
  obtain ⟨r, hr⟩ : ∃ r, schemeB t1.data.toList = r := ⟨_, rfl⟩
  have HD := Lib.hid (fun (W : World) => isScheme_is t1 hc1 r hr W)
  rw [hr] at HH
  generalize lowS t1 = lt at *
  clear hr ht1 ht2 e1 e2 hcc
  clear c1 c2
  cases c3 with
  | false =>
    obtain ⟨a1, a2, b1, b2, an, HA1, HA2, HCL, HCA, za, zb, HRR⟩ := host_rest s hs
    rw [if_neg (by simp)] at HH
    have HE := Lib.hid (HH.out.symm.trans (HRR.out {}))
    clear HRR HH
    obtain ⟨⟨n1, nb⟩, hn⟩ : ∃ q, nameR { ({} : Src) with path := b2 } a1.data.toList = q := ⟨_, rfl⟩
    rw [hn] at HE
    have HNM := Lib.hid (fun (W : World) (h : Has W (w.heap.size + 1) (.cells ({ ({} : Src) with path := b2 } : Src).cs 46)) => hn ▸ putName_is (w.heap.size + 1) { ({} : Src) with path := b2 } a1 za W h)
    clear hn
    cases nb with
    | false =>
      have HE2 := Lib.hid (show hh = (n1, false) from HE.out.trans (if_neg (by simp)))
      go_enter Tryz.func69, Tryz.ntmps69
      go_wp2_with (first | (go_at_call 91; refine HC.out.mono ?_; rintro e w1 ⟨rfl, nq, hnq⟩; have hb1 : Below X.heap.size X w1 := hnq ▸ below_dn (Below.refl _ _) nq; clear hnq; have HX := Lib.hid (HX.out.to hb1); have HR := Lib.hid (HR.out.to hb1); have HB := Lib.hid (HB.out.trans (hb1.mono HB.out.size)); clear hb1; clear hX))
      refine (HA1.out _).mono ?_
      rintro e w4 ⟨rfl, hb4⟩
      have HX := Lib.hid (HX.out.to hb4); have HR := Lib.hid (HR.out.to hb4); have HB := Lib.hid (HB.out.trans (hb4.mono HB.out.size)); clear hb4
      go_wp2_with (first | (go_at_call 92; refine (HA2.out _).mono ?_; rintro e w5 ⟨rfl, hb5⟩; have HX := Lib.hid (HX.out.to hb5); have HR := Lib.hid (HR.out.to hb5); have HB := Lib.hid (HB.out.trans (hb5.mono HB.out.size)); clear hb5) | (go_at_call 46; refine (HCL.out _).mono ?_; rintro e w6 ⟨rfl, hb6⟩; have HX := Lib.hid (HX.out.to hb6); have HR := Lib.hid (HR.out.to hb6); have HB := Lib.hid (HB.out.trans (hb6.mono HB.out.size)); clear hb6; have z7 := HX.out.cell 7 rfl; have f7 := HX.out.free 7) | (go_at_call 93; have HX := Lib.hid (has_path b2 HX.out); have HR := Lib.hid (HR.out.far (p := ⟨w.heap.size + 1, 7, none⟩) (show w.heap.size ≠ w.heap.size + 1 by omega) (.string b2)); have HB := Lib.hid (HB.out.setCell (p := ⟨w.heap.size + 1, 7, none⟩) (show w.heap.size ≤ w.heap.size + 1 by omega) (.string b2)); refine (HNM.out _ HX.out).mono ?_; rintro e w7 ⟨rfl, hx7, hb7⟩; have HX := Lib.hid hx7; have HR := Lib.hid (Has.to_lt HR.out hb7 (show w.heap.size < w.heap.size + 1 by omega)); have HB := Lib.hid (HB.out.trans (hb7.mono (show w.heap.size ≤ w.heap.size + 1 by omega))); clear hx7 hb7; have y0 := HX.out.cell 0 (v := .int .u8 n1.kind) rfl; have y1 := HX.out.cell 1 (v := .string n1.text) rfl; have y2 := HX.out.cell 2 (v := .string n1.scheme) rfl; have y3 := HX.out.cell 3 (v := .bool n1.wild) rfl; have y4 := HX.out.cell 4 (v := .int .i64 n1.port) rfl; have y5 := HX.out.cell 5 (v := .bool n1.hasPort) rfl; have y6 := HX.out.cell 6 (v := .bool n1.anyPort) rfl; have y7 := HX.out.cell 7 (v := .string n1.path) rfl; have z0 := HR.out.cell 0 rfl; have z1 := HR.out.cell 1 rfl; have z2 := HR.out.cell 2 rfl; have z3 := HR.out.cell 3 rfl; have z4 := HR.out.cell 4 rfl; have z5 := HR.out.cell 5 rfl; have z6 := HR.out.cell 6 rfl; have z7 := HR.out.cell 7 rfl; have f0 := HR.out.free 0; have f1 := HR.out.free 1; have f2 := HR.out.free 2; have f3 := HR.out.free 3; have f4 := HR.out.free 4; have f5 := HR.out.free 5; have f6 := HR.out.free 6; have f7 := HR.out.free 7))
      show bodyPost _ _ _ _ _ (st8 w7 w.heap.size n1)
      exact bodyPost_ret (ret46 (p := 2) (t2 := 3) rfl _ _ w.heap.size n1 (.bool false) rfl rfl (st8_has (x := n1) HR.out)) rfl (src_done n1 false (by rw [HP.out, HE2.out]; rfl) HB.out (fun y hy => by rw [HP.out, HE2.out] at hy; cases hy))
    | true =>
      obtain ⟨⟨p1, pb⟩, hp⟩ : ∃ q, portR n1 b1.data.toList = q := ⟨_, rfl⟩
      have HPT := Lib.hid (fun (W : World) (h : Has W (w.heap.size + 1) (.cells n1.cs 46)) => hp ▸ putPort_is (w.heap.size + 1) n1 b1 zb W h)
      have HE2 := Lib.hid (show hh = (p1, pb && !an) from HE.out.trans ((if_pos rfl).trans (by rw [hp])))
      clear hp
      cases pb with
      | false =>
        go_enter Tryz.func69, Tryz.ntmps69
        go_wp2_with (first | (go_at_call 91; refine HC.out.mono ?_; rintro e w1 ⟨rfl, nq, hnq⟩; have hb1 : Below X.heap.size X w1 := hnq ▸ below_dn (Below.refl _ _) nq; clear hnq; have HX := Lib.hid (HX.out.to hb1); have HR := Lib.hid (HR.out.to hb1); have HB := Lib.hid (HB.out.trans (hb1.mono HB.out.size)); clear hb1; clear hX))
        refine (HA1.out _).mono ?_
        rintro e w4 ⟨rfl, hb4⟩
        have HX := Lib.hid (HX.out.to hb4); have HR := Lib.hid (HR.out.to hb4); have HB := Lib.hid (HB.out.trans (hb4.mono HB.out.size)); clear hb4
        go_wp2_with (first | (go_at_call 92; refine (HA2.out _).mono ?_; rintro e w5 ⟨rfl, hb5⟩; have HX := Lib.hid (HX.out.to hb5); have HR := Lib.hid (HR.out.to hb5); have HB := Lib.hid (HB.out.trans (hb5.mono HB.out.size)); clear hb5) | (go_at_call 46; refine (HCL.out _).mono ?_; rintro e w6 ⟨rfl, hb6⟩; have HX := Lib.hid (HX.out.to hb6); have HR := Lib.hid (HR.out.to hb6); have HB := Lib.hid (HB.out.trans (hb6.mono HB.out.size)); clear hb6; have z7 := HX.out.cell 7 rfl; have f7 := HX.out.free 7) | (go_at_call 93; have HX := Lib.hid (has_path b2 HX.out); have HR := Lib.hid (HR.out.far (p := ⟨w.heap.size + 1, 7, none⟩) (show w.heap.size ≠ w.heap.size + 1 by omega) (.string b2)); have HB := Lib.hid (HB.out.setCell (p := ⟨w.heap.size + 1, 7, none⟩) (show w.heap.size ≤ w.heap.size + 1 by omega) (.string b2)); refine (HNM.out _ HX.out).mono ?_; rintro e w7 ⟨rfl, hx7, hb7⟩; have HX := Lib.hid hx7; have HR := Lib.hid (Has.to_lt HR.out hb7 (show w.heap.size < w.heap.size + 1 by omega)); have HB := Lib.hid (HB.out.trans (hb7.mono (show w.heap.size ≤ w.heap.size + 1 by omega))); clear hx7 hb7; skip) | (go_at_call 94; refine (HPT.out _ HX.out).mono ?_; rintro e w8 ⟨rfl, hx8, hb8⟩; have HX := Lib.hid hx8; have HR := Lib.hid (Has.to_lt HR.out hb8 (show w.heap.size < w.heap.size + 1 by omega)); have HB := Lib.hid (HB.out.trans (hb8.mono (show w.heap.size ≤ w.heap.size + 1 by omega))); clear hx8 hb8; have y0 := HX.out.cell 0 (v := .int .u8 p1.kind) rfl; have y1 := HX.out.cell 1 (v := .string p1.text) rfl; have y2 := HX.out.cell 2 (v := .string p1.scheme) rfl; have y3 := HX.out.cell 3 (v := .bool p1.wild) rfl; have y4 := HX.out.cell 4 (v := .int .i64 p1.port) rfl; have y5 := HX.out.cell 5 (v := .bool p1.hasPort) rfl; have y6 := HX.out.cell 6 (v := .bool p1.anyPort) rfl; have y7 := HX.out.cell 7 (v := .string p1.path) rfl; have z0 := HR.out.cell 0 rfl; have z1 := HR.out.cell 1 rfl; have z2 := HR.out.cell 2 rfl; have z3 := HR.out.cell 3 rfl; have z4 := HR.out.cell 4 rfl; have z5 := HR.out.cell 5 rfl; have z6 := HR.out.cell 6 rfl; have z7 := HR.out.cell 7 rfl; have f0 := HR.out.free 0; have f1 := HR.out.free 1; have f2 := HR.out.free 2; have f3 := HR.out.free 3; have f4 := HR.out.free 4; have f5 := HR.out.free 5; have f6 := HR.out.free 6; have f7 := HR.out.free 7))
        show bodyPost _ _ _ _ _ (st8 w8 w.heap.size p1)
        exact bodyPost_ret (ret46 (p := 2) (t2 := 3) rfl _ _ w.heap.size p1 (.bool false) rfl rfl (st8_has (x := p1) HR.out)) rfl (src_done p1 false (by rw [HP.out, HE2.out]; rfl) HB.out (fun y hy => by rw [HP.out, HE2.out] at hy; cases hy))
      | true =>
        go_enter Tryz.func69, Tryz.ntmps69
        go_wp2_with (first | (go_at_call 91; refine HC.out.mono ?_; rintro e w1 ⟨rfl, nq, hnq⟩; have hb1 : Below X.heap.size X w1 := hnq ▸ below_dn (Below.refl _ _) nq; clear hnq; have HX := Lib.hid (HX.out.to hb1); have HR := Lib.hid (HR.out.to hb1); have HB := Lib.hid (HB.out.trans (hb1.mono HB.out.size)); clear hb1; clear hX))
        refine (HA1.out _).mono ?_
        rintro e w4 ⟨rfl, hb4⟩
        have HX := Lib.hid (HX.out.to hb4); have HR := Lib.hid (HR.out.to hb4); have HB := Lib.hid (HB.out.trans (hb4.mono HB.out.size)); clear hb4
        go_wp2_with (first | (go_at_call 92; refine (HA2.out _).mono ?_; rintro e w5 ⟨rfl, hb5⟩; have HX := Lib.hid (HX.out.to hb5); have HR := Lib.hid (HR.out.to hb5); have HB := Lib.hid (HB.out.trans (hb5.mono HB.out.size)); clear hb5) | (go_at_call 46; refine (HCL.out _).mono ?_; rintro e w6 ⟨rfl, hb6⟩; have HX := Lib.hid (HX.out.to hb6); have HR := Lib.hid (HR.out.to hb6); have HB := Lib.hid (HB.out.trans (hb6.mono HB.out.size)); clear hb6; have z7 := HX.out.cell 7 rfl; have f7 := HX.out.free 7) | (go_at_call 93; have HX := Lib.hid (has_path b2 HX.out); have HR := Lib.hid (HR.out.far (p := ⟨w.heap.size + 1, 7, none⟩) (show w.heap.size ≠ w.heap.size + 1 by omega) (.string b2)); have HB := Lib.hid (HB.out.setCell (p := ⟨w.heap.size + 1, 7, none⟩) (show w.heap.size ≤ w.heap.size + 1 by omega) (.string b2)); refine (HNM.out _ HX.out).mono ?_; rintro e w7 ⟨rfl, hx7, hb7⟩; have HX := Lib.hid hx7; have HR := Lib.hid (Has.to_lt HR.out hb7 (show w.heap.size < w.heap.size + 1 by omega)); have HB := Lib.hid (HB.out.trans (hb7.mono (show w.heap.size ≤ w.heap.size + 1 by omega))); clear hx7 hb7; skip) | (go_at_call 94; refine (HPT.out _ HX.out).mono ?_; rintro e w8 ⟨rfl, hx8, hb8⟩; have HX := Lib.hid hx8; have HR := Lib.hid (Has.to_lt HR.out hb8 (show w.heap.size < w.heap.size + 1 by omega)); have HB := Lib.hid (HB.out.trans (hb8.mono (show w.heap.size ≤ w.heap.size + 1 by omega))); clear hx8 hb8; skip) | (go_at_call 85; refine (HCA.out _).mono ?_; rintro e w9 ⟨rfl, hb9⟩; have HX := Lib.hid (HX.out.to hb9); have HR := Lib.hid (HR.out.to hb9); have HB := Lib.hid (HB.out.trans (hb9.mono HB.out.size)); clear hb9; have y0 := HX.out.cell 0 (v := .int .u8 p1.kind) rfl; have y1 := HX.out.cell 1 (v := .string p1.text) rfl; have y2 := HX.out.cell 2 (v := .string p1.scheme) rfl; have y3 := HX.out.cell 3 (v := .bool p1.wild) rfl; have y4 := HX.out.cell 4 (v := .int .i64 p1.port) rfl; have y5 := HX.out.cell 5 (v := .bool p1.hasPort) rfl; have y6 := HX.out.cell 6 (v := .bool p1.anyPort) rfl; have y7 := HX.out.cell 7 (v := .string p1.path) rfl; have z0 := HR.out.cell 0 rfl; have z1 := HR.out.cell 1 rfl; have z2 := HR.out.cell 2 rfl; have z3 := HR.out.cell 3 rfl; have z4 := HR.out.cell 4 rfl; have z5 := HR.out.cell 5 rfl; have z6 := HR.out.cell 6 rfl; have z7 := HR.out.cell 7 rfl; have f0 := HR.out.free 0; have f1 := HR.out.free 1; have f2 := HR.out.free 2; have f3 := HR.out.free 3; have f4 := HR.out.free 4; have f5 := HR.out.free 5; have f6 := HR.out.free 6; have f7 := HR.out.free 7))
        show bodyPost _ _ _ _ _ (st8 w9 w.heap.size p1)
        exact bodyPost_ret (ret46 (p := 2) (t2 := 3) rfl _ _ w.heap.size p1 (.bool (!an)) rfl rfl (st8_has (x := p1) HR.out)) rfl (src_done p1 (!an) (by rw [HP.out, HE2.out]; cases an <;> rfl) HB.out (fun y hy => by rw [HP.out, HE2.out] at hy; cases an with | false => exact Option.some.inj hy | true => cases hy))
  | true =>
    cases r with
    | false =>
      obtain ⟨a1, a2, b1, b2, an, HA1, HA2, HCL, HCA, za, zb, HRR⟩ := host_rest s hs
      rw [if_neg (by simp)] at HH
      have HE := Lib.hid (HH.out.symm.trans (HRR.out {}))
      clear HRR HH
      obtain ⟨⟨n1, nb⟩, hn⟩ : ∃ q, nameR { ({} : Src) with path := b2 } a1.data.toList = q := ⟨_, rfl⟩
      rw [hn] at HE
      have HNM := Lib.hid (fun (W : World) (h : Has W (w.heap.size + 1) (.cells ({ ({} : Src) with path := b2 } : Src).cs 46)) => hn ▸ putName_is (w.heap.size + 1) { ({} : Src) with path := b2 } a1 za W h)
      clear hn
      cases nb with
      | false =>
        have HE2 := Lib.hid (show hh = (n1, false) from HE.out.trans (if_neg (by simp)))
        go_enter Tryz.func69, Tryz.ntmps69
        go_wp2_with (first | (go_at_call 91; refine HC.out.mono ?_; rintro e w1 ⟨rfl, nq, hnq⟩; have hb1 : Below X.heap.size X w1 := hnq ▸ below_dn (Below.refl _ _) nq; clear hnq; have HX := Lib.hid (HX.out.to hb1); have HR := Lib.hid (HR.out.to hb1); have HB := Lib.hid (HB.out.trans (hb1.mono HB.out.size)); clear hb1; clear hX) | (go_at_call 90; refine (HD.out _).mono ?_; rintro e w2 ⟨rfl, hb2⟩; have HX := Lib.hid (HX.out.to hb2); have HR := Lib.hid (HR.out.to hb2); have HB := Lib.hid (HB.out.trans (hb2.mono HB.out.size)); clear hb2))
        refine (HA1.out _).mono ?_
        rintro e w4 ⟨rfl, hb4⟩
        have HX := Lib.hid (HX.out.to hb4); have HR := Lib.hid (HR.out.to hb4); have HB := Lib.hid (HB.out.trans (hb4.mono HB.out.size)); clear hb4
        go_wp2_with (first | (go_at_call 92; refine (HA2.out _).mono ?_; rintro e w5 ⟨rfl, hb5⟩; have HX := Lib.hid (HX.out.to hb5); have HR := Lib.hid (HR.out.to hb5); have HB := Lib.hid (HB.out.trans (hb5.mono HB.out.size)); clear hb5) | (go_at_call 46; refine (HCL.out _).mono ?_; rintro e w6 ⟨rfl, hb6⟩; have HX := Lib.hid (HX.out.to hb6); have HR := Lib.hid (HR.out.to hb6); have HB := Lib.hid (HB.out.trans (hb6.mono HB.out.size)); clear hb6; have z7 := HX.out.cell 7 rfl; have f7 := HX.out.free 7) | (go_at_call 93; have HX := Lib.hid (has_path b2 HX.out); have HR := Lib.hid (HR.out.far (p := ⟨w.heap.size + 1, 7, none⟩) (show w.heap.size ≠ w.heap.size + 1 by omega) (.string b2)); have HB := Lib.hid (HB.out.setCell (p := ⟨w.heap.size + 1, 7, none⟩) (show w.heap.size ≤ w.heap.size + 1 by omega) (.string b2)); refine (HNM.out _ HX.out).mono ?_; rintro e w7 ⟨rfl, hx7, hb7⟩; have HX := Lib.hid hx7; have HR := Lib.hid (Has.to_lt HR.out hb7 (show w.heap.size < w.heap.size + 1 by omega)); have HB := Lib.hid (HB.out.trans (hb7.mono (show w.heap.size ≤ w.heap.size + 1 by omega))); clear hx7 hb7; have y0 := HX.out.cell 0 (v := .int .u8 n1.kind) rfl; have y1 := HX.out.cell 1 (v := .string n1.text) rfl; have y2 := HX.out.cell 2 (v := .string n1.scheme) rfl; have y3 := HX.out.cell 3 (v := .bool n1.wild) rfl; have y4 := HX.out.cell 4 (v := .int .i64 n1.port) rfl; have y5 := HX.out.cell 5 (v := .bool n1.hasPort) rfl; have y6 := HX.out.cell 6 (v := .bool n1.anyPort) rfl; have y7 := HX.out.cell 7 (v := .string n1.path) rfl; have z0 := HR.out.cell 0 rfl; have z1 := HR.out.cell 1 rfl; have z2 := HR.out.cell 2 rfl; have z3 := HR.out.cell 3 rfl; have z4 := HR.out.cell 4 rfl; have z5 := HR.out.cell 5 rfl; have z6 := HR.out.cell 6 rfl; have z7 := HR.out.cell 7 rfl; have f0 := HR.out.free 0; have f1 := HR.out.free 1; have f2 := HR.out.free 2; have f3 := HR.out.free 3; have f4 := HR.out.free 4; have f5 := HR.out.free 5; have f6 := HR.out.free 6; have f7 := HR.out.free 7))
        show bodyPost _ _ _ _ _ (st8 w7 w.heap.size n1)
        exact bodyPost_ret (ret46 (p := 2) (t2 := 3) rfl _ _ w.heap.size n1 (.bool false) rfl rfl (st8_has (x := n1) HR.out)) rfl (src_done n1 false (by rw [HP.out, HE2.out]; rfl) HB.out (fun y hy => by rw [HP.out, HE2.out] at hy; cases hy))
      | true =>
        obtain ⟨⟨p1, pb⟩, hp⟩ : ∃ q, portR n1 b1.data.toList = q := ⟨_, rfl⟩
        have HPT := Lib.hid (fun (W : World) (h : Has W (w.heap.size + 1) (.cells n1.cs 46)) => hp ▸ putPort_is (w.heap.size + 1) n1 b1 zb W h)
        have HE2 := Lib.hid (show hh = (p1, pb && !an) from HE.out.trans ((if_pos rfl).trans (by rw [hp])))
        clear hp
        cases pb with
        | false =>
          go_enter Tryz.func69, Tryz.ntmps69
          go_wp2_with (first | (go_at_call 91; refine HC.out.mono ?_; rintro e w1 ⟨rfl, nq, hnq⟩; have hb1 : Below X.heap.size X w1 := hnq ▸ below_dn (Below.refl _ _) nq; clear hnq; have HX := Lib.hid (HX.out.to hb1); have HR := Lib.hid (HR.out.to hb1); have HB := Lib.hid (HB.out.trans (hb1.mono HB.out.size)); clear hb1; clear hX) | (go_at_call 90; refine (HD.out _).mono ?_; rintro e w2 ⟨rfl, hb2⟩; have HX := Lib.hid (HX.out.to hb2); have HR := Lib.hid (HR.out.to hb2); have HB := Lib.hid (HB.out.trans (hb2.mono HB.out.size)); clear hb2))
          refine (HA1.out _).mono ?_
          rintro e w4 ⟨rfl, hb4⟩
          have HX := Lib.hid (HX.out.to hb4); have HR := Lib.hid (HR.out.to hb4); have HB := Lib.hid (HB.out.trans (hb4.mono HB.out.size)); clear hb4
          go_wp2_with (first | (go_at_call 92; refine (HA2.out _).mono ?_; rintro e w5 ⟨rfl, hb5⟩; have HX := Lib.hid (HX.out.to hb5); have HR := Lib.hid (HR.out.to hb5); have HB := Lib.hid (HB.out.trans (hb5.mono HB.out.size)); clear hb5) | (go_at_call 46; refine (HCL.out _).mono ?_; rintro e w6 ⟨rfl, hb6⟩; have HX := Lib.hid (HX.out.to hb6); have HR := Lib.hid (HR.out.to hb6); have HB := Lib.hid (HB.out.trans (hb6.mono HB.out.size)); clear hb6; have z7 := HX.out.cell 7 rfl; have f7 := HX.out.free 7) | (go_at_call 93; have HX := Lib.hid (has_path b2 HX.out); have HR := Lib.hid (HR.out.far (p := ⟨w.heap.size + 1, 7, none⟩) (show w.heap.size ≠ w.heap.size + 1 by omega) (.string b2)); have HB := Lib.hid (HB.out.setCell (p := ⟨w.heap.size + 1, 7, none⟩) (show w.heap.size ≤ w.heap.size + 1 by omega) (.string b2)); refine (HNM.out _ HX.out).mono ?_; rintro e w7 ⟨rfl, hx7, hb7⟩; have HX := Lib.hid hx7; have HR := Lib.hid (Has.to_lt HR.out hb7 (show w.heap.size < w.heap.size + 1 by omega)); have HB := Lib.hid (HB.out.trans (hb7.mono (show w.heap.size ≤ w.heap.size + 1 by omega))); clear hx7 hb7; skip) | (go_at_call 94; refine (HPT.out _ HX.out).mono ?_; rintro e w8 ⟨rfl, hx8, hb8⟩; have HX := Lib.hid hx8; have HR := Lib.hid (Has.to_lt HR.out hb8 (show w.heap.size < w.heap.size + 1 by omega)); have HB := Lib.hid (HB.out.trans (hb8.mono (show w.heap.size ≤ w.heap.size + 1 by omega))); clear hx8 hb8; have y0 := HX.out.cell 0 (v := .int .u8 p1.kind) rfl; have y1 := HX.out.cell 1 (v := .string p1.text) rfl; have y2 := HX.out.cell 2 (v := .string p1.scheme) rfl; have y3 := HX.out.cell 3 (v := .bool p1.wild) rfl; have y4 := HX.out.cell 4 (v := .int .i64 p1.port) rfl; have y5 := HX.out.cell 5 (v := .bool p1.hasPort) rfl; have y6 := HX.out.cell 6 (v := .bool p1.anyPort) rfl; have y7 := HX.out.cell 7 (v := .string p1.path) rfl; have z0 := HR.out.cell 0 rfl; have z1 := HR.out.cell 1 rfl; have z2 := HR.out.cell 2 rfl; have z3 := HR.out.cell 3 rfl; have z4 := HR.out.cell 4 rfl; have z5 := HR.out.cell 5 rfl; have z6 := HR.out.cell 6 rfl; have z7 := HR.out.cell 7 rfl; have f0 := HR.out.free 0; have f1 := HR.out.free 1; have f2 := HR.out.free 2; have f3 := HR.out.free 3; have f4 := HR.out.free 4; have f5 := HR.out.free 5; have f6 := HR.out.free 6; have f7 := HR.out.free 7))
          show bodyPost _ _ _ _ _ (st8 w8 w.heap.size p1)
          exact bodyPost_ret (ret46 (p := 2) (t2 := 3) rfl _ _ w.heap.size p1 (.bool false) rfl rfl (st8_has (x := p1) HR.out)) rfl (src_done p1 false (by rw [HP.out, HE2.out]; rfl) HB.out (fun y hy => by rw [HP.out, HE2.out] at hy; cases hy))
        | true =>
          go_enter Tryz.func69, Tryz.ntmps69
          go_wp2_with (first | (go_at_call 91; refine HC.out.mono ?_; rintro e w1 ⟨rfl, nq, hnq⟩; have hb1 : Below X.heap.size X w1 := hnq ▸ below_dn (Below.refl _ _) nq; clear hnq; have HX := Lib.hid (HX.out.to hb1); have HR := Lib.hid (HR.out.to hb1); have HB := Lib.hid (HB.out.trans (hb1.mono HB.out.size)); clear hb1; clear hX) | (go_at_call 90; refine (HD.out _).mono ?_; rintro e w2 ⟨rfl, hb2⟩; have HX := Lib.hid (HX.out.to hb2); have HR := Lib.hid (HR.out.to hb2); have HB := Lib.hid (HB.out.trans (hb2.mono HB.out.size)); clear hb2))
          refine (HA1.out _).mono ?_
          rintro e w4 ⟨rfl, hb4⟩
          have HX := Lib.hid (HX.out.to hb4); have HR := Lib.hid (HR.out.to hb4); have HB := Lib.hid (HB.out.trans (hb4.mono HB.out.size)); clear hb4
          go_wp2_with (first | (go_at_call 92; refine (HA2.out _).mono ?_; rintro e w5 ⟨rfl, hb5⟩; have HX := Lib.hid (HX.out.to hb5); have HR := Lib.hid (HR.out.to hb5); have HB := Lib.hid (HB.out.trans (hb5.mono HB.out.size)); clear hb5) | (go_at_call 46; refine (HCL.out _).mono ?_; rintro e w6 ⟨rfl, hb6⟩; have HX := Lib.hid (HX.out.to hb6); have HR := Lib.hid (HR.out.to hb6); have HB := Lib.hid (HB.out.trans (hb6.mono HB.out.size)); clear hb6; have z7 := HX.out.cell 7 rfl; have f7 := HX.out.free 7) | (go_at_call 93; have HX := Lib.hid (has_path b2 HX.out); have HR := Lib.hid (HR.out.far (p := ⟨w.heap.size + 1, 7, none⟩) (show w.heap.size ≠ w.heap.size + 1 by omega) (.string b2)); have HB := Lib.hid (HB.out.setCell (p := ⟨w.heap.size + 1, 7, none⟩) (show w.heap.size ≤ w.heap.size + 1 by omega) (.string b2)); refine (HNM.out _ HX.out).mono ?_; rintro e w7 ⟨rfl, hx7, hb7⟩; have HX := Lib.hid hx7; have HR := Lib.hid (Has.to_lt HR.out hb7 (show w.heap.size < w.heap.size + 1 by omega)); have HB := Lib.hid (HB.out.trans (hb7.mono (show w.heap.size ≤ w.heap.size + 1 by omega))); clear hx7 hb7; skip) | (go_at_call 94; refine (HPT.out _ HX.out).mono ?_; rintro e w8 ⟨rfl, hx8, hb8⟩; have HX := Lib.hid hx8; have HR := Lib.hid (Has.to_lt HR.out hb8 (show w.heap.size < w.heap.size + 1 by omega)); have HB := Lib.hid (HB.out.trans (hb8.mono (show w.heap.size ≤ w.heap.size + 1 by omega))); clear hx8 hb8; skip) | (go_at_call 85; refine (HCA.out _).mono ?_; rintro e w9 ⟨rfl, hb9⟩; have HX := Lib.hid (HX.out.to hb9); have HR := Lib.hid (HR.out.to hb9); have HB := Lib.hid (HB.out.trans (hb9.mono HB.out.size)); clear hb9; have y0 := HX.out.cell 0 (v := .int .u8 p1.kind) rfl; have y1 := HX.out.cell 1 (v := .string p1.text) rfl; have y2 := HX.out.cell 2 (v := .string p1.scheme) rfl; have y3 := HX.out.cell 3 (v := .bool p1.wild) rfl; have y4 := HX.out.cell 4 (v := .int .i64 p1.port) rfl; have y5 := HX.out.cell 5 (v := .bool p1.hasPort) rfl; have y6 := HX.out.cell 6 (v := .bool p1.anyPort) rfl; have y7 := HX.out.cell 7 (v := .string p1.path) rfl; have z0 := HR.out.cell 0 rfl; have z1 := HR.out.cell 1 rfl; have z2 := HR.out.cell 2 rfl; have z3 := HR.out.cell 3 rfl; have z4 := HR.out.cell 4 rfl; have z5 := HR.out.cell 5 rfl; have z6 := HR.out.cell 6 rfl; have z7 := HR.out.cell 7 rfl; have f0 := HR.out.free 0; have f1 := HR.out.free 1; have f2 := HR.out.free 2; have f3 := HR.out.free 3; have f4 := HR.out.free 4; have f5 := HR.out.free 5; have f6 := HR.out.free 6; have f7 := HR.out.free 7))
          show bodyPost _ _ _ _ _ (st8 w9 w.heap.size p1)
          exact bodyPost_ret (ret46 (p := 2) (t2 := 3) rfl _ _ w.heap.size p1 (.bool (!an)) rfl rfl (st8_has (x := p1) HR.out)) rfl (src_done p1 (!an) (by rw [HP.out, HE2.out]; cases an <;> rfl) HB.out (fun y hy => by rw [HP.out, HE2.out] at hy; cases an with | false => exact Option.some.inj hy | true => cases hy))
    | true =>
      obtain ⟨a1, a2, b1, b2, an, HA1, HA2, HCL, HCA, za, zb, HRR⟩ := host_rest t2 hc2
      rw [if_pos (by simp)] at HH
      have HE := Lib.hid (HH.out.symm.trans (HRR.out { scheme := lt }))
      clear HRR HH
      obtain ⟨⟨n1, nb⟩, hn⟩ : ∃ q, nameR { ({ scheme := lt } : Src) with path := b2 } a1.data.toList = q := ⟨_, rfl⟩
      rw [hn] at HE
      have HNM := Lib.hid (fun (W : World) (h : Has W (w.heap.size + 1) (.cells ({ ({ scheme := lt } : Src) with path := b2 } : Src).cs 46)) => hn ▸ putName_is (w.heap.size + 1) { ({ scheme := lt } : Src) with path := b2 } a1 za W h)
      clear hn
      cases nb with
      | false =>
        have HE2 := Lib.hid (show hh = (n1, false) from HE.out.trans (if_neg (by simp)))
        go_enter Tryz.func69, Tryz.ntmps69
        go_wp2_with (first | (go_at_call 91; refine HC.out.mono ?_; rintro e w1 ⟨rfl, nq, hnq⟩; have hb1 : Below X.heap.size X w1 := hnq ▸ below_dn (Below.refl _ _) nq; clear hnq; have HX := Lib.hid (HX.out.to hb1); have HR := Lib.hid (HR.out.to hb1); have HB := Lib.hid (HB.out.trans (hb1.mono HB.out.size)); clear hb1; clear hX) | (go_at_call 90; refine (HD.out _).mono ?_; rintro e w2 ⟨rfl, hb2⟩; have HX := Lib.hid (HX.out.to hb2); have HR := Lib.hid (HR.out.to hb2); have HB := Lib.hid (HB.out.trans (hb2.mono HB.out.size)); clear hb2) | (go_at_call 35; refine (HL.out _).mono ?_; rintro e w3 ⟨rfl, hb3⟩; have HX := Lib.hid (HX.out.to hb3); have HR := Lib.hid (HR.out.to hb3); have HB := Lib.hid (HB.out.trans (hb3.mono HB.out.size)); clear hb3; have z2 := HX.out.cell 2 rfl; have f2 := HX.out.free 2))
        refine (HA1.out _).mono ?_
        rintro e w4 ⟨rfl, hb4⟩
        have HX := Lib.hid (has_scheme lt HX.out); have HR := Lib.hid (HR.out.far (p := ⟨w.heap.size + 1, 2, none⟩) (show w.heap.size ≠ w.heap.size + 1 by omega) (.string lt)); have HB := Lib.hid (HB.out.setCell (p := ⟨w.heap.size + 1, 2, none⟩) (show w.heap.size ≤ w.heap.size + 1 by omega) (.string lt))
        have HX := Lib.hid (HX.out.to hb4); have HR := Lib.hid (HR.out.to hb4); have HB := Lib.hid (HB.out.trans (hb4.mono HB.out.size)); clear hb4
        go_wp2_with (first | (go_at_call 92; refine (HA2.out _).mono ?_; rintro e w5 ⟨rfl, hb5⟩; have HX := Lib.hid (HX.out.to hb5); have HR := Lib.hid (HR.out.to hb5); have HB := Lib.hid (HB.out.trans (hb5.mono HB.out.size)); clear hb5) | (go_at_call 46; refine (HCL.out _).mono ?_; rintro e w6 ⟨rfl, hb6⟩; have HX := Lib.hid (HX.out.to hb6); have HR := Lib.hid (HR.out.to hb6); have HB := Lib.hid (HB.out.trans (hb6.mono HB.out.size)); clear hb6; have z7 := HX.out.cell 7 rfl; have f7 := HX.out.free 7) | (go_at_call 93; have HX := Lib.hid (has_path b2 HX.out); have HR := Lib.hid (HR.out.far (p := ⟨w.heap.size + 1, 7, none⟩) (show w.heap.size ≠ w.heap.size + 1 by omega) (.string b2)); have HB := Lib.hid (HB.out.setCell (p := ⟨w.heap.size + 1, 7, none⟩) (show w.heap.size ≤ w.heap.size + 1 by omega) (.string b2)); refine (HNM.out _ HX.out).mono ?_; rintro e w7 ⟨rfl, hx7, hb7⟩; have HX := Lib.hid hx7; have HR := Lib.hid (Has.to_lt HR.out hb7 (show w.heap.size < w.heap.size + 1 by omega)); have HB := Lib.hid (HB.out.trans (hb7.mono (show w.heap.size ≤ w.heap.size + 1 by omega))); clear hx7 hb7; have y0 := HX.out.cell 0 (v := .int .u8 n1.kind) rfl; have y1 := HX.out.cell 1 (v := .string n1.text) rfl; have y2 := HX.out.cell 2 (v := .string n1.scheme) rfl; have y3 := HX.out.cell 3 (v := .bool n1.wild) rfl; have y4 := HX.out.cell 4 (v := .int .i64 n1.port) rfl; have y5 := HX.out.cell 5 (v := .bool n1.hasPort) rfl; have y6 := HX.out.cell 6 (v := .bool n1.anyPort) rfl; have y7 := HX.out.cell 7 (v := .string n1.path) rfl; have z0 := HR.out.cell 0 rfl; have z1 := HR.out.cell 1 rfl; have z2 := HR.out.cell 2 rfl; have z3 := HR.out.cell 3 rfl; have z4 := HR.out.cell 4 rfl; have z5 := HR.out.cell 5 rfl; have z6 := HR.out.cell 6 rfl; have z7 := HR.out.cell 7 rfl; have f0 := HR.out.free 0; have f1 := HR.out.free 1; have f2 := HR.out.free 2; have f3 := HR.out.free 3; have f4 := HR.out.free 4; have f5 := HR.out.free 5; have f6 := HR.out.free 6; have f7 := HR.out.free 7))
        show bodyPost _ _ _ _ _ (st8 w7 w.heap.size n1)
        exact bodyPost_ret (ret46 (p := 2) (t2 := 3) rfl _ _ w.heap.size n1 (.bool false) rfl rfl (st8_has (x := n1) HR.out)) rfl (src_done n1 false (by rw [HP.out, HE2.out]; rfl) HB.out (fun y hy => by rw [HP.out, HE2.out] at hy; cases hy))
      | true =>
        obtain ⟨⟨p1, pb⟩, hp⟩ : ∃ q, portR n1 b1.data.toList = q := ⟨_, rfl⟩
        have HPT := Lib.hid (fun (W : World) (h : Has W (w.heap.size + 1) (.cells n1.cs 46)) => hp ▸ putPort_is (w.heap.size + 1) n1 b1 zb W h)
        have HE2 := Lib.hid (show hh = (p1, pb && !an) from HE.out.trans ((if_pos rfl).trans (by rw [hp])))
        clear hp
        cases pb with
        | false =>
          go_enter Tryz.func69, Tryz.ntmps69
          go_wp2_with (first | (go_at_call 91; refine HC.out.mono ?_; rintro e w1 ⟨rfl, nq, hnq⟩; have hb1 : Below X.heap.size X w1 := hnq ▸ below_dn (Below.refl _ _) nq; clear hnq; have HX := Lib.hid (HX.out.to hb1); have HR := Lib.hid (HR.out.to hb1); have HB := Lib.hid (HB.out.trans (hb1.mono HB.out.size)); clear hb1; clear hX) | (go_at_call 90; refine (HD.out _).mono ?_; rintro e w2 ⟨rfl, hb2⟩; have HX := Lib.hid (HX.out.to hb2); have HR := Lib.hid (HR.out.to hb2); have HB := Lib.hid (HB.out.trans (hb2.mono HB.out.size)); clear hb2) | (go_at_call 35; refine (HL.out _).mono ?_; rintro e w3 ⟨rfl, hb3⟩; have HX := Lib.hid (HX.out.to hb3); have HR := Lib.hid (HR.out.to hb3); have HB := Lib.hid (HB.out.trans (hb3.mono HB.out.size)); clear hb3; have z2 := HX.out.cell 2 rfl; have f2 := HX.out.free 2))
          refine (HA1.out _).mono ?_
          rintro e w4 ⟨rfl, hb4⟩
          have HX := Lib.hid (has_scheme lt HX.out); have HR := Lib.hid (HR.out.far (p := ⟨w.heap.size + 1, 2, none⟩) (show w.heap.size ≠ w.heap.size + 1 by omega) (.string lt)); have HB := Lib.hid (HB.out.setCell (p := ⟨w.heap.size + 1, 2, none⟩) (show w.heap.size ≤ w.heap.size + 1 by omega) (.string lt))
          have HX := Lib.hid (HX.out.to hb4); have HR := Lib.hid (HR.out.to hb4); have HB := Lib.hid (HB.out.trans (hb4.mono HB.out.size)); clear hb4
          go_wp2_with (first | (go_at_call 92; refine (HA2.out _).mono ?_; rintro e w5 ⟨rfl, hb5⟩; have HX := Lib.hid (HX.out.to hb5); have HR := Lib.hid (HR.out.to hb5); have HB := Lib.hid (HB.out.trans (hb5.mono HB.out.size)); clear hb5) | (go_at_call 46; refine (HCL.out _).mono ?_; rintro e w6 ⟨rfl, hb6⟩; have HX := Lib.hid (HX.out.to hb6); have HR := Lib.hid (HR.out.to hb6); have HB := Lib.hid (HB.out.trans (hb6.mono HB.out.size)); clear hb6; have z7 := HX.out.cell 7 rfl; have f7 := HX.out.free 7) | (go_at_call 93; have HX := Lib.hid (has_path b2 HX.out); have HR := Lib.hid (HR.out.far (p := ⟨w.heap.size + 1, 7, none⟩) (show w.heap.size ≠ w.heap.size + 1 by omega) (.string b2)); have HB := Lib.hid (HB.out.setCell (p := ⟨w.heap.size + 1, 7, none⟩) (show w.heap.size ≤ w.heap.size + 1 by omega) (.string b2)); refine (HNM.out _ HX.out).mono ?_; rintro e w7 ⟨rfl, hx7, hb7⟩; have HX := Lib.hid hx7; have HR := Lib.hid (Has.to_lt HR.out hb7 (show w.heap.size < w.heap.size + 1 by omega)); have HB := Lib.hid (HB.out.trans (hb7.mono (show w.heap.size ≤ w.heap.size + 1 by omega))); clear hx7 hb7; skip) | (go_at_call 94; refine (HPT.out _ HX.out).mono ?_; rintro e w8 ⟨rfl, hx8, hb8⟩; have HX := Lib.hid hx8; have HR := Lib.hid (Has.to_lt HR.out hb8 (show w.heap.size < w.heap.size + 1 by omega)); have HB := Lib.hid (HB.out.trans (hb8.mono (show w.heap.size ≤ w.heap.size + 1 by omega))); clear hx8 hb8; have y0 := HX.out.cell 0 (v := .int .u8 p1.kind) rfl; have y1 := HX.out.cell 1 (v := .string p1.text) rfl; have y2 := HX.out.cell 2 (v := .string p1.scheme) rfl; have y3 := HX.out.cell 3 (v := .bool p1.wild) rfl; have y4 := HX.out.cell 4 (v := .int .i64 p1.port) rfl; have y5 := HX.out.cell 5 (v := .bool p1.hasPort) rfl; have y6 := HX.out.cell 6 (v := .bool p1.anyPort) rfl; have y7 := HX.out.cell 7 (v := .string p1.path) rfl; have z0 := HR.out.cell 0 rfl; have z1 := HR.out.cell 1 rfl; have z2 := HR.out.cell 2 rfl; have z3 := HR.out.cell 3 rfl; have z4 := HR.out.cell 4 rfl; have z5 := HR.out.cell 5 rfl; have z6 := HR.out.cell 6 rfl; have z7 := HR.out.cell 7 rfl; have f0 := HR.out.free 0; have f1 := HR.out.free 1; have f2 := HR.out.free 2; have f3 := HR.out.free 3; have f4 := HR.out.free 4; have f5 := HR.out.free 5; have f6 := HR.out.free 6; have f7 := HR.out.free 7))
          show bodyPost _ _ _ _ _ (st8 w8 w.heap.size p1)
          exact bodyPost_ret (ret46 (p := 2) (t2 := 3) rfl _ _ w.heap.size p1 (.bool false) rfl rfl (st8_has (x := p1) HR.out)) rfl (src_done p1 false (by rw [HP.out, HE2.out]; rfl) HB.out (fun y hy => by rw [HP.out, HE2.out] at hy; cases hy))
        | true =>
          go_enter Tryz.func69, Tryz.ntmps69
          go_wp2_with (first | (go_at_call 91; refine HC.out.mono ?_; rintro e w1 ⟨rfl, nq, hnq⟩; have hb1 : Below X.heap.size X w1 := hnq ▸ below_dn (Below.refl _ _) nq; clear hnq; have HX := Lib.hid (HX.out.to hb1); have HR := Lib.hid (HR.out.to hb1); have HB := Lib.hid (HB.out.trans (hb1.mono HB.out.size)); clear hb1; clear hX) | (go_at_call 90; refine (HD.out _).mono ?_; rintro e w2 ⟨rfl, hb2⟩; have HX := Lib.hid (HX.out.to hb2); have HR := Lib.hid (HR.out.to hb2); have HB := Lib.hid (HB.out.trans (hb2.mono HB.out.size)); clear hb2) | (go_at_call 35; refine (HL.out _).mono ?_; rintro e w3 ⟨rfl, hb3⟩; have HX := Lib.hid (HX.out.to hb3); have HR := Lib.hid (HR.out.to hb3); have HB := Lib.hid (HB.out.trans (hb3.mono HB.out.size)); clear hb3; have z2 := HX.out.cell 2 rfl; have f2 := HX.out.free 2))
          refine (HA1.out _).mono ?_
          rintro e w4 ⟨rfl, hb4⟩
          have HX := Lib.hid (has_scheme lt HX.out); have HR := Lib.hid (HR.out.far (p := ⟨w.heap.size + 1, 2, none⟩) (show w.heap.size ≠ w.heap.size + 1 by omega) (.string lt)); have HB := Lib.hid (HB.out.setCell (p := ⟨w.heap.size + 1, 2, none⟩) (show w.heap.size ≤ w.heap.size + 1 by omega) (.string lt))
          have HX := Lib.hid (HX.out.to hb4); have HR := Lib.hid (HR.out.to hb4); have HB := Lib.hid (HB.out.trans (hb4.mono HB.out.size)); clear hb4
          go_wp2_with (first | (go_at_call 92; refine (HA2.out _).mono ?_; rintro e w5 ⟨rfl, hb5⟩; have HX := Lib.hid (HX.out.to hb5); have HR := Lib.hid (HR.out.to hb5); have HB := Lib.hid (HB.out.trans (hb5.mono HB.out.size)); clear hb5) | (go_at_call 46; refine (HCL.out _).mono ?_; rintro e w6 ⟨rfl, hb6⟩; have HX := Lib.hid (HX.out.to hb6); have HR := Lib.hid (HR.out.to hb6); have HB := Lib.hid (HB.out.trans (hb6.mono HB.out.size)); clear hb6; have z7 := HX.out.cell 7 rfl; have f7 := HX.out.free 7) | (go_at_call 93; have HX := Lib.hid (has_path b2 HX.out); have HR := Lib.hid (HR.out.far (p := ⟨w.heap.size + 1, 7, none⟩) (show w.heap.size ≠ w.heap.size + 1 by omega) (.string b2)); have HB := Lib.hid (HB.out.setCell (p := ⟨w.heap.size + 1, 7, none⟩) (show w.heap.size ≤ w.heap.size + 1 by omega) (.string b2)); refine (HNM.out _ HX.out).mono ?_; rintro e w7 ⟨rfl, hx7, hb7⟩; have HX := Lib.hid hx7; have HR := Lib.hid (Has.to_lt HR.out hb7 (show w.heap.size < w.heap.size + 1 by omega)); have HB := Lib.hid (HB.out.trans (hb7.mono (show w.heap.size ≤ w.heap.size + 1 by omega))); clear hx7 hb7; skip) | (go_at_call 94; refine (HPT.out _ HX.out).mono ?_; rintro e w8 ⟨rfl, hx8, hb8⟩; have HX := Lib.hid hx8; have HR := Lib.hid (Has.to_lt HR.out hb8 (show w.heap.size < w.heap.size + 1 by omega)); have HB := Lib.hid (HB.out.trans (hb8.mono (show w.heap.size ≤ w.heap.size + 1 by omega))); clear hx8 hb8; skip) | (go_at_call 85; refine (HCA.out _).mono ?_; rintro e w9 ⟨rfl, hb9⟩; have HX := Lib.hid (HX.out.to hb9); have HR := Lib.hid (HR.out.to hb9); have HB := Lib.hid (HB.out.trans (hb9.mono HB.out.size)); clear hb9; have y0 := HX.out.cell 0 (v := .int .u8 p1.kind) rfl; have y1 := HX.out.cell 1 (v := .string p1.text) rfl; have y2 := HX.out.cell 2 (v := .string p1.scheme) rfl; have y3 := HX.out.cell 3 (v := .bool p1.wild) rfl; have y4 := HX.out.cell 4 (v := .int .i64 p1.port) rfl; have y5 := HX.out.cell 5 (v := .bool p1.hasPort) rfl; have y6 := HX.out.cell 6 (v := .bool p1.anyPort) rfl; have y7 := HX.out.cell 7 (v := .string p1.path) rfl; have z0 := HR.out.cell 0 rfl; have z1 := HR.out.cell 1 rfl; have z2 := HR.out.cell 2 rfl; have z3 := HR.out.cell 3 rfl; have z4 := HR.out.cell 4 rfl; have z5 := HR.out.cell 5 rfl; have z6 := HR.out.cell 6 rfl; have z7 := HR.out.cell 7 rfl; have f0 := HR.out.free 0; have f1 := HR.out.free 1; have f2 := HR.out.free 2; have f3 := HR.out.free 3; have f4 := HR.out.free 4; have f5 := HR.out.free 5; have f6 := HR.out.free 6; have f7 := HR.out.free 7))
          show bodyPost _ _ _ _ _ (st8 w9 w.heap.size p1)
          exact bodyPost_ret (ret46 (p := 2) (t2 := 3) rfl _ _ w.heap.size p1 (.bool (!an)) rfl rfl (st8_has (x := p1) HR.out)) rfl (src_done p1 (!an) (by rw [HP.out, HE2.out]; cases an <;> rfl) HB.out (fun y hy => by rw [HP.out, HE2.out] at hy; cases an with | false => exact Option.some.inj hy | true => cases hy))
end Go.Proofs.YtempmmkdppelaaaGreatDoor
