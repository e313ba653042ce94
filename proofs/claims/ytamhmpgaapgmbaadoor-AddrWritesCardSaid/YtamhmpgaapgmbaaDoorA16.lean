import Derived.Test.YtamhmpgaapgmbaaDoorA15
namespace Go.Proofs.YtamhmpgaapgmbaaDoor
open Go.RowKit
theorem lng_cases (l : List Nat) : ∀ s, s ≤ 8 → lng l s = (0, 0) ∨ ∃ f k, 2 ≤ k ∧ k ≤ s ∧ f + k ≤ 8 ∧ lng l s = (f, f + k) ∧ wo l f (f + k) = l ∧ (∀ i, i < f → ¬ wo l i (i + k) = l) ∧ ∀ k', k < k' → k' ≤ s → ∀ i, i + k' ≤ 8 → ¬ wo l i (i + k') = l
  | 0, _ => .inl rfl
  | s + 1, h => by
    by_cases h0 : s = 0
    · subst h0; exact .inl rfl
    rcases hq : (List.range (8 - (s + 1) + 1)).find? (candB l (s + 1)) with _ | f
    · have hn : ∀ i, i + (s + 1) ≤ 8 → ¬ wo l i (i + (s + 1)) = l := by
        intro i hi e
        rw [List.find?_range_eq_none] at hq
        have := hq i (by omega)
        unfold candB at this
        rw [decide_eq_true e] at this
        exact absurd this (by decide)
      have e : lng l (s + 1) = lng l s := by rw [lng, if_neg h0, hq]
      rw [e]
      rcases lng_cases l s (by omega) with h1 | ⟨f, k, a, b, c, d, e1, e2, e3⟩
      · exact .inl h1
      · exact .inr ⟨f, k, a, by omega, c, d, e1, e2, fun k' h1 h2 i hi => by
          by_cases h3 : k' = s + 1
          · subst h3; exact hn i hi
          · exact e3 k' h1 (by omega) i hi⟩
    · rw [List.find?_range_eq_some] at hq
      obtain ⟨h1, h2, h3⟩ := hq
      have e : lng l (s + 1) = (f, f + (s + 1)) := lng_hit (by omega) (by simpa using h2) h1 (fun i hi => by simpa using h3 i hi)
      refine .inr ⟨f, s + 1, by omega, Nat.le_refl _, by simp at h2; omega, e, by unfold candB at h1; simpa using h1, fun i hi => by have := h3 i hi; unfold candB at this; simpa using this, fun k' h1 h2 => by omega⟩
def tv6 (l : List Nat) : List UInt8 := if (lng l 8).1 = (lng l 8).2 then txtP l else txtP (l.take (lng l 8).1) ++ [58, 58] ++ txtP (l.drop (lng l 8).2)
theorem at_part {W : World} {g a b : Nat} {l : List Nat} (h : Has W g (.cells (A8 l) 27)) (hl : l.length = 8) (hab : a ≤ b) (hb : b ≤ 8) : U16At W (arrS g a b) ((l.take b).drop a) := by
  have hlen : ((l.take b).drop a).length = b - a := by simp; omega
  refine ⟨some ⟨g, if 8 = a then 0 else a, none⟩, 8 - a, by unfold arrS; rw [hlen], fun k x hk => ?_⟩
  have hkl : k < b - a := by have := (List.getElem?_eq_some_iff.1 hk).1; omega
  refine ⟨g, _, rfl, h.lt, ?_⟩
  rw [if_neg (by omega)]
  refine h.cell (a + k) ?_
  rw [List.getElem?_drop, List.getElem?_take, if_pos (by omega)] at hk
  simp [A8, hk]
theorem toNat_idx (s : ByteArray) : s = ⟨s.data⟩ := rfl
set_option maxHeartbeats 8000000 in
set_option maxRecDepth 100000 in
theorem textV6_whole (l : List Nat) (hl : l.length = 8) (bl : ∀ x ∈ l, x < 65536) (w : World) (hG : Glob w) (h0 : lng l 8 = (0, 0)) :
    Calls Tryd.prog 19 #[.agg (A8 l)] w fun e w' => e = .returned (.string ⟨(tv6 l).toArray⟩) ∧ Below w.heap.size w w' := by
  have HE := Lib.hid (show tv6 l = txtP l from if_pos (by rw [h0]))
  have HC := Lib.hid (fun W => longest_is l hl bl W)
  have HH := Lib.hid (Has.new w (.cells (A8 l) 27))
  have hle27 : (Tryd.prog.info? 27).map (·.size) = some (A8 l).size := by rw [A8_size, hl]; exact info27
  have HLE := Lib.hid hle27
  have HL := Lib.hid hl
  have HB := Lib.hid bl
  have HG := Lib.hid hG
  have H0 := Lib.hid h0
  have ks := slice8_all w.heap.size
  clear h0 hG bl hl hle27
  go_enter Tryd.func19, Tryd.ntmps19
  go_wp2_with (refine wpList_load_row (by rfl) 27 (.tmp 1) rfl w.heap.size rfl 27 (A8 l) (0, 0) _ HH.out Tryd.underlying27 rfl HLE.out ?_)
  refine (HC.out _).mono ?_
  rintro e w1 ⟨rfl, hb⟩
  rw [H0.out]
  have HB1 := Lib.hid hb
  clear hb
  go_wp2_with fail
  refine (written_is _ l (by rw [HL.out]; omega) HB.out _ (HG.out.to (bel2 (bnew _ _) HB1.out)) ?_).mono ?_
  · have := at_part (a := 0) (b := 8) (HH.out.to HB1.out) HL.out (by omega) (by omega)
    rwa [List.drop_zero, List.take_of_length_le (by rw [HL.out]; omega)] at this
  rintro e w2 ⟨rfl, hb⟩
  have HB2 := Lib.hid (bel2 (bel2 (bnew _ _) HB1.out) hb)
  clear hb
  go_wp2_with fail
  go_ret
  exact ⟨by rw [HE.out]; rfl, HB2.out⟩
set_option maxHeartbeats 8000000 in
set_option maxRecDepth 100000 in
theorem textV6_short (l : List Nat) (hl : l.length = 8) (bl : ∀ x ∈ l, x < 65536) (w : World) (hG : Glob w) (f t : Nat) (h0 : lng l 8 = (f, t)) (hft : f < t) (ht : t ≤ 8) :
    Calls Tryd.prog 19 #[.agg (A8 l)] w fun e w' => e = .returned (.string ⟨(tv6 l).toArray⟩) ∧ Below w.heap.size w w' := by
  have HE := Lib.hid (show tv6 l = txtP (l.take f) ++ [58, 58] ++ txtP (l.drop t) by unfold tv6; rw [h0]; exact if_neg (by simp; omega))
  have HC := Lib.hid (fun W => longest_is l hl bl W)
  have HH := Lib.hid (Has.new w (.cells (A8 l) 27))
  have hle27 : (Tryd.prog.info? 27).map (·.size) = some (A8 l).size := by rw [A8_size, hl]; exact info27
  have HLE := Lib.hid hle27
  have HL := Lib.hid hl
  have HB := Lib.hid bl
  have HG := Lib.hid hG
  have H0 := Lib.hid h0
  have k1 := slice8_h w.heap.size f (by omega)
  have k2 := slice8_l w.heap.size t ht
  have hm0 : Tryd.prog.follows .mixedOrders = true := by kernel_rfl
  have hne : ((f : Int) == (t : Int)) = false := by rw [beq_eq_false_iff_ne]; omega
  clear h0 hG bl hl hle27
  go_enter Tryd.func19, Tryd.ntmps19
  go_wp2_with (refine wpList_load_row (by rfl) 27 (.tmp 1) rfl w.heap.size rfl 27 (A8 l) (0, 0) _ HH.out Tryd.underlying27 rfl HLE.out ?_)
  refine (HC.out _).mono ?_
  rintro e w1 ⟨rfl, hb⟩
  rw [H0.out]
  have HB1 := Lib.hid hb
  clear hb
  go_wp2_with fail
  have HP := Lib.hid (show ∀ p : Later w1, Has p.v w.heap.size (.cells (A8 l) 27) ∧ Glob p.v from fun p => ⟨(HH.out.to HB1.out).to p.h, (HG.out.to (bel2 (bnew _ _) HB1.out)).to p.h⟩)
  have HA := Lib.hid (show ∀ p : Later w1, Calls Tryd.prog 35 #[arrS w.heap.size 0 f] p.v fun e w' => e = .returned (.string ⟨(txtP (l.take f)).toArray⟩) ∧ Below p.v.heap.size p.v w' from fun p =>
    written_is _ (l.take f) (by simp; omega) (fun x hx => HB.out x (List.mem_of_mem_take hx)) _ (HP.out p).2 (by have := at_part (a := 0) (b := f) (HP.out p).1 HL.out (by omega) (by omega); rwa [List.drop_zero] at this))
  have HD := Lib.hid (show ∀ p : Later w1, Calls Tryd.prog 35 #[arrS w.heap.size t 8] p.v fun e w' => e = .returned (.string ⟨(txtP (l.drop t)).toArray⟩) ∧ Below p.v.heap.size p.v w' from fun p =>
    written_is _ (l.drop t) (by simp; have := HL.out; omega) (fun x hx => HB.out x (List.mem_of_mem_drop hx)) _ (HP.out p).2 (by have := at_part (a := t) (b := 8) (HP.out p).1 HL.out (by omega) (by omega); rwa [List.take_of_length_le (by rw [HL.out]; omega)] at this))
  have hq1 : ¬ 9223372036854775807 < (txtP (l.take f)).length + 2 := by have := txtP_len (l.take f) (fun x hx => HB.out x (List.mem_of_mem_take hx)); simp only [List.length_take, HL.out] at this; omega
  have hq2 : ¬ 9223372036854775807 < (txtP (l.take f)).length + 2 + (txtP (l.drop t)).length := by have := txtP_len (l.take f) (fun x hx => HB.out x (List.mem_of_mem_take hx)); have h2 := txtP_len (l.drop t) (fun x hx => HB.out x (List.mem_of_mem_drop hx)); simp only [List.length_take, List.length_drop, HL.out] at this h2; omega
  refine wp_region_quiet_later hm0 (by kernel_rfl) ?_
  quiet_step (fail)
  quiet_step (fail)
  quiet_step ((go_at_call 35; exact Calls.later_of (HA.out _)))
  quiet_step (fail)
  quiet_step (fail)
  quiet_step (fail)
  quiet_step ((go_at_call 35; exact Calls.later_of (HD.out _)))
  quiet_step (fail)
  quiet_step (fail)
  refine wpQuiet_nil ?_
  rintro _ ⟨p, rfl⟩
  have HB3 := Lib.hid (bel2 (bel2 (bnew _ _) HB1.out) p.h)
  go_wp2_with fail
  go_ret
  exact ⟨by rw [HE.out]; rfl, HB3.out⟩
theorem textV6_is (l : List Nat) (hl : l.length = 8) (bl : ∀ x ∈ l, x < 65536) (w : World) (hG : Glob w) :
    Calls Tryd.prog 19 #[.agg (A8 l)] w fun e w' => e = .returned (.string ⟨(tv6 l).toArray⟩) ∧ Below w.heap.size w w' := by
  rcases lng_cases l 8 (Nat.le_refl _) with h | ⟨f, k, h1, h2, h3, h4, _⟩
  · exact textV6_whole l hl bl w hG h
  · exact textV6_short l hl bl w hG f (f + k) h4 (by omega) h3
end Go.Proofs.YtamhmpgaapgmbaaDoor
