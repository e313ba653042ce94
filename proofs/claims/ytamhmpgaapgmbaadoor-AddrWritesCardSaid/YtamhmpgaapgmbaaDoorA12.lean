import Derived.Test.YtamhmpgaapgmbaaDoorA11
namespace Go.Proofs.YtamhmpgaapgmbaaDoor
open Go.RowKit
set_option maxHeartbeats 1000000 in
theorem app16i (B u : Nat) (a : Int) (ha : a = (u : Int)) (hu : u < 65536) (sv : Value) (l : List UInt8) (hl : l.length ≤ 1000) (w : World) (hown : Own B sv l w) (hBw : B ≤ w.heap.size) (hG : Glob w) :
    Calls Tryd.prog 48 #[sv, .int .u64 a, .int .i64 16] w fun e w' => ∃ v', e = .returned v' ∧ Own B v' (l ++ hexD u) w' ∧ Below B w w' := by
  have HC := Lib.hid (fmt16 B u a ha hu sv l hl w hown hBw hG)
  clear hown hG ha
  go_enter Tryd.func48, Tryd.ntmps48
  go_wp2_with fail
  refine HC.out.mono ?_
  rintro e w1 ⟨v', rfl, h1, h2⟩
  have HX := Lib.hid (And.intro h1 h2)
  clear h1 h2
  go_wp2_with fail
  go_ret
  exact ⟨v', rfl, HX.out⟩
set_option maxHeartbeats 1000000 in
theorem app16 (B u : Nat) (a : Int) (ha : a = (u : Int)) (hu : u < 65536) (sv : Value) (l : List UInt8) (hl : l.length ≤ 1000) (w : World) (hown : Own B sv l w) (hBw : B ≤ w.heap.size) (hG : Glob w) :
    Calls Tryd.prog 32 #[sv, .int .u64 a, .int .i64 16] w fun e w' => ∃ v', e = .returned v' ∧ Own B v' (l ++ hexD u) w' ∧ Below B w w' := by
  have HC := Lib.hid (app16i B u a ha hu sv l hl w hown hBw hG)
  clear hown hG ha
  go_enter Tryd.func32, Tryd.ntmps32
  go_wp2_with fail
  refine HC.out.mono ?_
  rintro e w1 ⟨v', rfl, h1, h2⟩
  have HX := Lib.hid (And.intro h1 h2)
  clear h1 h2
  go_wp2_with fail
  go_ret
  exact ⟨v', rfl, HX.out⟩
/-- pieces l lie where the slice v says -/
def U16At (w : World) (v : Value) (l : List Nat) : Prop :=
  ∃ (p : Option Addr) (cap : Nat), v = .slice p l.length cap ∧ ∀ (k x : Nat), l[k]? = some x → ∃ g o, p = some ⟨g, o, none⟩ ∧ g < w.heap.size ∧ w.cell? ⟨g, o + k, none⟩ = some (.int .u16 x)
theorem U16At.to {w w' : World} {v : Value} {l : List Nat} (h : U16At w v l) (hb : Below w.heap.size w w') : U16At w' v l := by
  obtain ⟨p, cap, hv, hc⟩ := h
  refine ⟨p, cap, hv, fun k x hk => ?_⟩
  obtain ⟨g, o, hp, hg, hx⟩ := hc k x hk
  exact ⟨g, o, hp, Nat.lt_of_lt_of_le hg hb.size, (hb.cell (p := ⟨g, o + k, none⟩) hg).trans hx⟩
/-- pieces as text -/
def txtP (l : List Nat) : List UInt8 := joinC 58 (l.map hexD)
theorem txtP_one {l : List Nat} {k : Nat} (h : k < l.length) (h0 : k = 0) : txtP (l.take (k + 1)) = txtP (l.take k) ++ hexD l[k] := by
  subst h0
  cases l with
  | nil => simp at h
  | cons a r => rfl
theorem txtP_more {l : List Nat} {k : Nat} (h : k < l.length) (h0 : 0 < k) : txtP (l.take (k + 1)) = (txtP (l.take k) ++ [58]) ++ hexD l[k] := by
  unfold txtP
  rw [List.take_succ_eq_append_getElem h, List.map_append, List.map_cons, List.map_nil, joinC_snoc]
  · simp
  · intro e
    have := congrArg List.length e
    simp only [List.length_map, List.length_take, List.length_nil] at this; omega
theorem txtP_len (l : List Nat) (hl : ∀ x ∈ l, x < 65536) : (txtP l).length ≤ 5 * l.length := by
  unfold txtP
  induction l with
  | nil => simp [joinC]
  | cons a r ih =>
    have h1 := hexD_len a (hl a (by simp))
    cases r with
    | nil => simp [joinC]; omega
    | cons b r' =>
      have := ih (fun x hx => hl x (by simp [hx]))
      simp only [List.map_cons, joinC, List.length_append, List.length_cons] at this ⊢
      omega
set_option maxHeartbeats 1000000 in
set_option maxRecDepth 100000 in
theorem written_nil (p : Option Addr) (cp : Nat) (w : World) :
    Calls Tryd.prog 35 #[.slice p 0 cp] w fun e w' => e = .returned (.string ⟨#[]⟩) ∧ Below w.heap.size w w' := by
  have kb := fun (W : World) => run_convert_bytes_nil (P := Tryd.prog) W 56 5 Tryd.underlying56 Tryd.underlying5 0 0 9 Tryd.underlying9
  go_enter Tryd.func35, Tryd.ntmps35
  go_wp2_with fail
  go_loopw [3, 8] (fun v i wr => v = .slice none 0 0 ∧ i = .int .i64 0 ∧ wr = w) (fun _ _ _ => 0)
  case atStart => exact ⟨rfl, rfl, rfl⟩
  case round =>
    obtain ⟨rfl, rfl, rfl⟩ := hrel
    go_wp2_with fail
    go_ret
    exact ⟨rfl, Below.refl _ _⟩
set_option maxHeartbeats 8000000 in
set_option maxRecDepth 100000 in
theorem written_some (g o cp n : Nat) (l : List Nat) (hn : n = l.length) (h8 : n ≤ 8) (h16 : ∀ x ∈ l, x < 65536) (w : World) (hG : Glob w) (hg : g < w.heap.size) (hc : ∀ (k : Nat) (h : k < l.length), w.cell? ⟨g, o + k, none⟩ = some (.int .u16 l[k])) :
    Calls Tryd.prog 35 #[.slice (some ⟨g, o, none⟩) n cp] w fun e w' => e = .returned (.string ⟨(txtP l).toArray⟩) ∧ Below w.heap.size w w' := by
  obtain ⟨i0, hi, hz0, hz1, hz2⟩ := info_parts infoByte
  have HN := Lib.hid hn
  have HG := Lib.hid hG
  have HC := Lib.hid hc
  have H16 := Lib.hid h16
  clear hn hG hc h16
  go_enter Tryd.func35, Tryd.ntmps35
  go_wp2_with fail
  go_loopw [3, 8] (fun v i wr => ∃ k : Nat, k ≤ n ∧ i = .int .i64 k ∧ Hid (Own w.heap.size v (txtP (l.take k)) wr) ∧ Hid (Glob wr) ∧ Hid (Below w.heap.size w wr)) (fun _ i _ => n - (intOf i).toNat)
  case atStart => exact ⟨0, by omega, rfl, Lib.hid (World.ownsRow_nil _ _ _ _), HG, Lib.hid (Below.refl _ _)⟩
  case round =>
    obtain ⟨k, hk, rfl, HO, HGr, HB⟩ := hrel
    by_cases hlt : k < n
    · have hkl : k < l.length := by rw [← HN.out]; exact hlt
      have c0 : wr.cell? ⟨g, o + k, none⟩ = some (.int .u16 l[k]) := (HB.out.cell (p := ⟨g, o + k, none⟩) hg).trans (HC.out k hkl)
      have hgr : g < wr.heap.size := Nat.lt_of_lt_of_le hg HB.out.size
      have hx := H16.out l[k] (List.getElem_mem hkl)
      have HL := Lib.hid (show (txtP (l.take k)).length ≤ 40 from by
        have h1 := txtP_len (l.take k) (fun x hx => H16.out x (List.mem_of_mem_take hx))
        have h2 := List.length_take_le k l
        omega)
      obtain ⟨x, hxe⟩ : ∃ x, x = l[k] := ⟨_, rfl⟩
      have HX := Lib.hid hxe
      rw [← hxe] at c0 hx
      clear hxe
      by_cases h0 : k = 0
      · have HT := Lib.hid (txtP_one hkl h0)
        have HK0 := Lib.hid h0
        have hk0 : (0 < k) = False := by simp [h0]
        have hk1 : decide (0 < k) = false := by simp [h0]
        clear h0 hk0
        go_wp2_with fail
        refine (app16 w.heap.size x _ rfl hx _ _ (by have := HL.out; omega) _ HO.out HB.out.size HGr.out).mono ?_
        rintro e w1 ⟨v1, rfl, ho, hb⟩
        have HO1 := Lib.hid ho
        have HB1 := Lib.hid (HB.out.trans hb)
        have HG1 := Lib.hid (HG.out.to HB1.out)
        clear ho hb
        go_wp2_with fail
        go_roundw
        case rel => exact ⟨k + 1, by omega, by go_num, Lib.hid (by rw [HT.out, ← HX.out]; exact HO1.out), HG1, HB1⟩
        case measure => simp [intOf]; omega
      · have hkp : 0 < k := by omega
        have HT := Lib.hid (txtP_more hkl hkp)
        clear h0
        go_wp2_with (at_builtin; refine wpList_append_own _ rfl _ _ 56 rfl w.heap.size 5 i0 (.int .u8 0) 1 1 Tryd.underlying56 hi hz0 hz1 hz2 rfl (by decide) _ _ _ rfl (HO.out.alloc _) ⟨wr.heap.size, 0, none⟩ 1 1 [.int .u8 58] rfl rfl (lit_one _ _) (one_cell _) (by have := HL.out; unfold maxLen; omega) (by have := HL.out; omega) (by have := HB.out.size; simp; omega) ?_; intro v' w1 hown' hgrow _; have HO1 := Lib.hid hown'; clear hown'; have HW := Lib.hid hgrow; clear hgrow)
        have HO1 := Lib.hid (own_snoc (c := 58) HO1.out)
        have HB1 := Lib.hid ((HB.out.alloc HB.out.size _).grown HW.out (by have := HB.out.size; simp; omega) (fun k hk => (HO.out.lt k hk).1))
        have HG1 := Lib.hid (HG.out.to HB1.out)
        refine (app16 w.heap.size x _ rfl hx _ _ (by have := HL.out; simp; omega) _ HO1.out HB1.out.size HG1.out).mono ?_
        rintro e w2 ⟨v2, rfl, ho, hb⟩
        have HO2 := Lib.hid ho
        have HB2 := Lib.hid (HB1.out.trans hb)
        have HG2 := Lib.hid (HG.out.to HB2.out)
        clear ho hb
        go_wp2_with fail
        go_roundw
        case rel => exact ⟨k + 1, by omega, by go_num, Lib.hid (by rw [HT.out, ← HX.out]; exact HO2.out), HG2, HB2⟩
        case measure => simp [intOf]; omega
    · have kb := own_back (P := Tryd.prog) HO.out Tryd.underlying56 Tryd.underlying5 Tryd.underlying9
      have HE := Lib.hid (show txtP (l.take k) = txtP l by rw [List.take_of_length_le (by rw [← HN.out]; omega)])
      have h5 : decide (k < n) = false := by simpa using hlt
      generalize txtP (l.take k) = acc at *
      go_wp2_with fail
      go_ret
      exact ⟨by rw [← HE.out]; rfl, HB.out⟩
theorem written_is (v : Value) (l : List Nat) (h8 : l.length ≤ 8) (h16 : ∀ x ∈ l, x < 65536) (w : World) (hG : Glob w) (hv : U16At w v l) :
    Calls Tryd.prog 35 #[v] w fun e w' => e = .returned (.string ⟨(txtP l).toArray⟩) ∧ Below w.heap.size w w' := by
  obtain ⟨p, cap, rfl, hc⟩ := hv
  cases hl : l with
  | nil => exact written_nil p cap w
  | cons a r =>
    rw [← hl]
    obtain ⟨g, o, rfl, hg, _⟩ := hc 0 a (by rw [hl]; rfl)
    refine written_some g o cap _ l rfl h8 h16 w hG hg fun k hk => ?_
    obtain ⟨g', o', he, _, hx⟩ := hc k l[k] (List.getElem?_eq_getElem hk)
    cases he
    exact hx
end Go.Proofs.YtamhmpgaapgmbaaDoor
