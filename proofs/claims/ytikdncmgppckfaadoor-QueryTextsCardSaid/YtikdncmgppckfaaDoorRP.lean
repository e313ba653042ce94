import Derived.Test.YtikdncmgppckfaaDoorBld
import Derived.Shelf.Strings.Replace
import Derived.Deep.LoopGhost
/-
  strings.ReplaceAll: at texts of less than 2^32 - 15 bytes and an old text that is not empty nor the new one, what it answers is the library's plain function; nothing that was there is changed.
-/
namespace Go.Proofs.YtikdncmgppckfaaDoor
open Go.RowKit Go.Shelf
theorem count_is (s old : ByteArray) (m : Int) (w : World) (hs : s.size < 4294967281) (hm : w.cell? ⟨0, 0, none⟩ = some (.int .i64 m)) (h1 : 1 ≤ old.size) :
    Calls Tryd.prog 101 #[.string s, .string old] w fun e w' => e = .returned (.int .i64 (Lib.countB s old)) ∧ w' = w := by
  by_cases h2 : 2 ≤ old.size
  · exact Tryd.strings_Count s old m w hs hm h2
  · exact Any.strings_Count_any Tryd.lays138 s old m w hs hm h1
set_option maxHeartbeats 4000000 in
set_option maxRecDepth 1000000 in
theorem replace_some (s old new : ByteArray) (m : Int) (w : World) (hs : s.size < 4294967281) (hm : w.cell? ⟨0, 0, none⟩ = some (.int .i64 m)) (h1 : 1 ≤ old.size) (hne : old ≠ new) (hc0 : Lib.countB s old ≠ 0)
    (hlen : s.size + Lib.countB s old * new.size ≤ 140737488355328) :
    Calls Tryd.prog 78 #[.string s, .string old, .string new, .int .i64 (-1)] w fun e w' =>
      e = .returned (.string ⟨(Lib.replaceK old.data.toList new.data.toList (Lib.count s.data.toList old.data.toList) s.data.toList).toArray⟩) ∧ Below w.heap.size w w' := by
  have HC := Lib.hid (count_is s old m w hs hm h1)
  have hmul := Lib.countB_mul_le old h1 s.size s (Nat.le_refl _)
  obtain ⟨K, hK⟩ : ∃ K : Nat, Lib.countB s old = K := ⟨_, rfl⟩
  have hK' : Lib.count s.data.toList old.data.toList = K := hK
  rw [hK] at HC hlen hc0 hmul
  rw [hK']
  have hbeq : (old.toList == new.toList) = false := (Lib.bytes_beq_false_iff old new).2 hne
  have hcz : ((K : Int) == 0) = false := beq_eq_false_iff_ne.2 (by omega)
  have hlenL : s.data.toList.length = s.size := (Lib.size_eq s).symm
  have hlenO : old.data.toList.length = old.size := (Lib.size_eq old).symm
  have hgl : 0 < w.heap.size := World.block_lt_of_cell? _ _ hm
  have hKs : K ≤ s.size := Nat.le_trans (Nat.le_mul_of_pos_right K (by omega)) hmul
  have HA := Lib.hid (Lib.grow_arg s.size K new.size old.size (by omega) hmul hlen)
  have HCT := Lib.hid (show K ≤ Lib.count (s.data.toList.drop 0) old.data.toList by rw [List.drop_zero, hK']; exact Nat.le_refl _)
  have HM := Lib.hid hm
  have HL := Lib.hid hlenL
  have HO := Lib.hid hlenO
  have hod : decide (0 < old.size) = true := decide_eq_true (by omega)
  clear hK hK' hm hlenL hlenO
  go_enter Tryd.func78, Tryd.ntmps78
  go_wp2_with (first | (go_at_call 101; refine HC.out.mono ?_; rintro e w' ⟨rfl, hw⟩; rw [hw]))
  try rw [HA.out]
  refine (bGrow 47 bt47 w.heap.size w.heap.size _ _ (Nat.le_refl _) (heap_alloc_new w _) (by simp) (by omega)).mono ?_
  rintro e w1 ⟨rfl, hb0, hb1⟩
  have H1 := Lib.hid (show IsB 47 w.heap.size w.heap.size [] w1 from .inr (Lib.BuilderAtF.of hb0))
  have Hb1 := Lib.hid (((Below.refl w.heap.size w).alloc (Nat.le_refl _) _).trans hb1)
  clear hb0 hb1 HA HC
  go_wp2_with fail
  go_loopg [11, 53] K (fun g s11 s53 wx => ∃ (i start : Nat) (acc : List UInt8), s53 = .int .i64 i ∧ s11 = .int .i64 start ∧ i + g = K ∧ start ≤ s.size ∧
    Hid (IsB 47 w.heap.size w.heap.size acc wx) ∧ Hid (Below w.heap.size w wx) ∧ Hid (acc ++ Lib.replaceK old.data.toList new.data.toList g (s.data.toList.drop start) = Lib.replaceK old.data.toList new.data.toList K s.data.toList) ∧
    Hid (g ≤ Lib.count (s.data.toList.drop start) old.data.toList) ∧ acc.length + (s.size - start) + g * new.size ≤ s.size + K * new.size)
  case atStart => exact ⟨0, 0, [], rfl, rfl, by omega, Nat.zero_le _, H1, Hb1, Lib.hid (by simp), HCT, by simp⟩
  case round =>
    obtain ⟨i, start, acc, rfl, rfl, hig, hst, HB, HW, HR, HGC, hbd⟩ := hrel
    have hBw : w.heap.size ≤ wr.heap.size := HW.out.size
    have c1 : (0 : Int) ≤ (start : Int) := by omega
    have c2 : (start : Int) ≤ (s.size : Int) := by omega
    cases gk with
    | zero =>
      have hiK : ¬ ((i : Int) < (K : Int)) := by omega
      go_wp2_with fail
      refine (bStr 47 bt47 w.heap.size w.heap.size _ _ wr HB.out (by rw [ByteArray.size_extract]; omega) hBw).mono ?_
      rintro e w3 ⟨rfl, h3, hb3, _⟩
      rw [Lib.extract_to_end] at h3
      have hfin : acc ++ s.data.toList.drop start = Lib.replaceK old.data.toList new.data.toList K s.data.toList := HR.out
      rw [hfin] at h3
      have H3 := Lib.hid h3
      have Hb3 := Lib.hid (HW.out.trans hb3)
      have hBw3 : w.heap.size ≤ w3.heap.size := Hb3.out.size
      clear h3 hb3 hfin
      go_wp2_with fail
      refine (bString 47 w.heap.size w.heap.size _ w3 H3.out hBw3).mono ?_
      rintro e w5 ⟨rfl, hb5, _⟩
      have Hb5 := Lib.hid (Hb3.out.trans hb5)
      clear hb5
      go_wp2
      go_ret
      exact ⟨rfl, Hb5.out⟩
    | succ g =>
      have hiK : (i : Int) < (K : Int) := by omega
      obtain ⟨j, hj⟩ := Lib.index_of_count (s := s.data.toList.drop start) (old := old.data.toList) (by have := HGC.out; omega)
      have hroom : j + old.size ≤ s.size - start := by
        have := Lib.index_room (s.data.toList.drop start) old.data.toList (by rw [hj]; omega)
        rw [hj, List.length_drop, HL.out, HO.out] at this
        omega
      have hmr : wr.cell? ⟨0, 0, none⟩ = some (.int .i64 m) := by rw [HW.out.cell (p := ⟨0, 0, none⟩) hgl]; exact HM.out
      have hsucc : (g + 1) * new.size = g * new.size + new.size := Nat.succ_mul _ _
      have c3 : (start : Int) ≤ (start : Int) + (j : Int) := by omega
      have c4 : (start : Int) + (j : Int) ≤ (s.size : Int) := by omega
      have Hn := Lib.hid (show acc ++ (s.extract start (start + j)).data.toList ++ new.data.toList = acc ++ (s.data.toList.drop start).take j ++ new.data.toList by
        rw [Lib.extract_data, Nat.add_sub_cancel_left])
      have Hrep := Lib.hid (show (acc ++ (s.data.toList.drop start).take j ++ new.data.toList) ++ Lib.replaceK old.data.toList new.data.toList g (s.data.toList.drop (start + j + old.size)) = Lib.replaceK old.data.toList new.data.toList K s.data.toList by
        rw [← HR.out, Lib.replaceK_hit _ _ g _ j hj, List.drop_drop, HO.out]
        simp only [List.append_assoc, Nat.add_assoc])
      have Hcnt := Lib.hid (show g ≤ Lib.count (s.data.toList.drop (start + j + old.size)) old.data.toList by
        have h0 := HGC.out
        have := Lib.count_hit (s := s.data.toList.drop start) (sub := old.data.toList) (i := j) (fun e => by have hO := HO.out; rw [e] at hO; simp at hO; omega) hj
        rw [List.drop_drop, HO.out] at this
        rw [show start + j + old.size = start + (j + old.size) by omega]
        omega)
      have htl : ((s.data.toList.drop start).take j).length = j := by rw [List.length_take, List.length_drop, HL.out]; omega
      have HTL := Lib.hid htl
      have HIX := Lib.hid (show Calls Tryd.prog 73 #[.string (s.extract start s.size), .string old] wr fun e w' => e = .returned (.int .i64 j) ∧ w' = wr from by
        have := Tryd.strings_Index (s.extract start s.size) old m wr (by rw [ByteArray.size_extract]; omega) hmr
        rw [Lib.extract_to_end, hj] at this
        exact this)
      clear HR HGC htl hj hmr
      go_wp2_with (first | (go_at_call 73; refine HIX.out.mono ?_; rintro e w' ⟨rfl, hw⟩; rw [hw]))
      refine (bStr 47 bt47 w.heap.size w.heap.size _ (s.extract start (start + j)) wr HB.out (by rw [ByteArray.size_extract]; omega) hBw).mono ?_
      rintro e w3 ⟨rfl, h3, hb3, _⟩
      have hBw3 : w.heap.size ≤ w3.heap.size := Nat.le_trans hBw hb3.size
      have H3 := Lib.hid h3
      have Hb3 := Lib.hid hb3
      clear h3 hb3
      go_wp2_with fail
      refine (bStr 47 bt47 w.heap.size w.heap.size _ new w3 H3.out (by rw [List.length_append, ← Lib.size_eq, ByteArray.size_extract]; omega) hBw3).mono ?_
      rintro e w4 ⟨rfl, h4, hb4, _⟩
      rw [Hn.out] at h4
      have H4 := Lib.hid h4
      have Hb4 := Lib.hid ((HW.out.trans Hb3.out).trans hb4)
      clear h4 hb4
      go_wp2
      go_roundg g
      case measure => omega
      case rel => exact ⟨i + 1, start + j + old.size, _, by first | rfl | (simp; unfold wrap64; omega), by first | rfl | simp | (simp; unfold wrap64; omega), by omega, by omega, H4, Hb4, Hrep, Hcnt, by simp only [List.length_append, HTL.out, ← Lib.size_eq]; omega⟩
set_option maxHeartbeats 1000000 in
set_option maxRecDepth 1000000 in
theorem replace_absent (s old new : ByteArray) (m : Int) (w : World) (hs : s.size < 4294967281) (hm : w.cell? ⟨0, 0, none⟩ = some (.int .i64 m)) (h1 : 1 ≤ old.size) (hne : old ≠ new) (hc0 : Lib.countB s old = 0) :
    Calls Tryd.prog 78 #[.string s, .string old, .string new, .int .i64 (-1)] w fun e w' => e = .returned (.string s) ∧ w' = w := by
  have hC := count_is s old m w hs hm h1
  rw [hc0] at hC
  have HC := Lib.hid hC
  have hbeq : (old.toList == new.toList) = false := (Lib.bytes_beq_false_iff old new).2 hne
  clear hC hm
  go_enter Tryd.func78, Tryd.ntmps78
  go_wp2_with (first | (go_at_call 101; refine HC.out.mono ?_; rintro e w' ⟨rfl, hw⟩; rw [hw]))
  go_ret
  exact ⟨rfl, rfl⟩
/-- what ReplaceAll answers -/
def rpl (old new l : List UInt8) : List UInt8 := Lib.replaceK old new (Lib.count l old) l
set_option maxHeartbeats 1000000 in
theorem replaceAll_is (s old new : ByteArray) (T : List UInt8) (hT : rpl old.data.toList new.data.toList s.data.toList = T) (m : Int) (w : World) (hs : s.size < 4294967281) (hm : w.cell? ⟨0, 0, none⟩ = some (.int .i64 m)) (h1 : 1 ≤ old.size) (hne : old ≠ new) (hn : new.size ≤ 4) :
    Calls Tryd.prog 53 #[.string s, .string old, .string new] w fun e w' => e = .returned (.string ⟨T.toArray⟩) ∧ Below w.heap.size w w' := by
  have c : Calls Tryd.prog 78 #[.string s, .string old, .string new, .int .i64 (-1)] w fun e w' => e = .returned (.string ⟨T.toArray⟩) ∧ Below w.heap.size w w' := by
    by_cases hc0 : Lib.countB s old = 0
    · refine (replace_absent s old new m w hs hm h1 hne hc0).mono fun e w' ⟨h1', h2'⟩ => ⟨?_, h2' ▸ Below.refl _ _⟩
      have e0 : Lib.count s.data.toList old.data.toList = 0 := hc0
      rw [h1', ← hT, rpl, e0, Lib.replaceK, Lib.mk_data]
    · have hm' := Lib.countB_mul_le old h1 s.size s (Nat.le_refl _)
      have h2 : Lib.countB s old ≤ s.size := Nat.le_trans (Nat.le_mul_of_pos_right _ (by omega)) hm'
      have h3 : Lib.countB s old * new.size ≤ s.size * 4 := Nat.mul_le_mul h2 hn
      have := replace_some s old new m w hs hm h1 hne hc0 (by omega)
      rw [← hT]
      exact this
  have C := Lib.hid c
  clear c hT hm
  go_enter Tryd.func53, Tryd.ntmps53
  go_wp2_with (go_at_call 78; refine C.out.mono ?_; rintro e w' ⟨rfl, hw⟩)
  go_ret
  exact ⟨rfl, hw⟩
end Go.Proofs.YtikdncmgppckfaaDoor
