/-
  The document's Lower.
-/
import Derived.Test.YtempmmkdppelaaaGreatDoorBKM
namespace Go.Proofs.YtempmmkdppelaaaGreatDoor
open Go.RowKit
theorem nil_back (w : World) : (convert 73 9 (.slice none 0 0)).run Tryz.prog w = .ok (.string ⟨#[]⟩) w := by
  simp [convert, run_underlying Tryz.underlying73, run_underlying Tryz.underlying9, run_underlying Tryz.underlying5, go_sem, Conv.bytesToString, loadCells, loadCellsFrom]
  rfl
def byV (l : List UInt8) : List Value := l.map fun b => .int .u8 b.toNat
set_option maxHeartbeats 2000000 in
set_option maxRecDepth 100000 in
theorem rlower_is (s : ByteArray) (hs : s.size ≤ 70368744177664) (w : World) : Calls Tryz.prog 41 #[.string s] w fun e w' => e = .returned (.string (lowS s)) ∧ Below w.heap.size w w' := by
  obtain ⟨i0, hi, hz0, hz1, hz2⟩ := info_parts infoByteT
  go_enter Tryz.func41, Tryz.ntmps41
  go_wp2_with fail
  go_loopw [3, 4] (fun v i wr => ∃ k : Nat, k ≤ s.size ∧ i = .int .i64 k ∧ Hid (∃ xs, wr.ownsRow w.heap.size 5 1 v k xs ∧ xs = byV ((s.data.toList.take k).map M.low)) ∧ Hid (Below w.heap.size w wr)) (fun _ i _ => s.size - (intOf i).toNat)
  case atStart => exact ⟨0, by omega, rfl, Lib.hid ⟨[], World.ownsRow_nil _ _ _ _, by simp [byV]⟩, Lib.hid (Below.refl _ _)⟩
  case round =>
    obtain ⟨k, hk, rfl, HO0, HB⟩ := hrel
    obtain ⟨xs, hxo, hxe⟩ := HO0.out
    have HO := Lib.hid hxo
    have HXE := Lib.hid hxe
    clear hxo hxe HO0
    by_cases hlt : k < s.size
    · have i1 : (k : Int) < (s.size : Int) := by omega
      have hbk : s.data.toList[k]? = some s[k] := by rw [List.getElem?_eq_getElem (by rw [Ks.len_list]; exact hlt)]; rfl
      have HT := Lib.hid (show byV ((s.data.toList.take k).map M.low) ++ [.int .u8 (M.low s[k]).toNat] = byV ((s.data.toList.take (k + 1)).map M.low) from by
        obtain ⟨hkl, e⟩ := List.getElem?_eq_some_iff.1 hbk
        rw [List.take_succ_eq_append_getElem hkl, e]
        simp [byV])
      have hln := low_nat s[k]
      clear hbk
      obtain ⟨q, c, rfl⟩ := own_any HO.out
      by_cases hc : 65 ≤ s[k].toNat ∧ s[k].toNat ≤ 90
      · rw [if_pos hc] at hln
        have g1 : decide ((65 : Int) ≤ (s[k].toNat : Int)) = true := decide_eq_true (by omega)
        have g2 : decide ((s[k].toNat : Int) ≤ 90) = true := decide_eq_true (by omega)
        have hln' : ((M.low s[k]).toNat : Int) = (s[k].toNat : Int) + 32 := by omega
        have gw : IntKind.u8.wrap ((s[k].toNat : Int) + 32) = (s[k].toNat : Int) + 32 := by
          have : s[k].toNat + 32 < 256 := by omega
          unfold IntKind.wrap IntKind.signed IntKind.bits
          simp; omega
        have HLN := Lib.hid hln'
        clear hln hc hln'
        go_wp2_with (at_builtin; refine wpList_append_own _ rfl _ _ 73 rfl w.heap.size 5 i0 (.int .u8 0) 1 1 Tryz.underlying73 hi hz0 hz1 hz2 rfl (by decide) _ _ _ rfl (HO.out.alloc _) ⟨wr.heap.size, 0, none⟩ 1 1 [.int .u8 ((s[k].toNat : Int) + 32)] rfl rfl ?c1 ?c2 ?c3 ?c4 ?c5 ?_)
        case c1 =>
          intro j u hj
          match j, hj with
          | 0, hj => simp at hj; subst hj; simp [Addr.add]
        case c2 => intro u hu; simp at hu; subst hu; rfl
        case c3 => unfold maxLen; omega
        case c4 => omega
        case c5 => have := HB.out.size; simp; omega
        intro v' w2 hown hgr _
        have HBN := Lib.hid ((HB.out.alloc HB.out.size _).grown hgr (by have := HB.out.size; simp; omega) fun j ej => (HO.out.lt j ej).1)
        have HON := Lib.hid (show ∃ xs, w2.ownsRow w.heap.size 5 1 v' (k + 1) xs ∧ xs = byV ((s.data.toList.take (k + 1)).map M.low) from ⟨_, hown, by rw [← HT.out, HLN.out, HXE.out]⟩)
        clear hown hgr HO HB
        go_wp2_with fail
        go_roundw
        case rel => exact ⟨k + 1, by omega, by go_num, HON, HBN⟩
        case measure => simp [intOf]; omega
      · rw [if_neg hc] at hln
        have hln' : ((M.low s[k]).toNat : Int) = (s[k].toNat : Int) := by omega
        have HLN := Lib.hid hln'
        clear hln hln'
        by_cases h1 : 65 ≤ s[k].toNat
        · have g1 : decide ((65 : Int) ≤ (s[k].toNat : Int)) = true := decide_eq_true (by omega)
          have g2 : decide ((s[k].toNat : Int) ≤ 90) = false := decide_eq_false (by omega)
          clear hc
          go_wp2_with (at_builtin; refine wpList_append_own _ rfl _ _ 73 rfl w.heap.size 5 i0 (.int .u8 0) 1 1 Tryz.underlying73 hi hz0 hz1 hz2 rfl (by decide) _ _ _ rfl (HO.out.alloc _) ⟨wr.heap.size, 0, none⟩ 1 1 [.int .u8 s[k].toNat] rfl rfl ?c1 ?c2 ?c3 ?c4 ?c5 ?_)
          case c1 =>
            intro j u hj
            match j, hj with
            | 0, hj => simp at hj; subst hj; simp [Addr.add]
          case c2 => intro u hu; simp at hu; subst hu; rfl
          case c3 => unfold maxLen; omega
          case c4 => omega
          case c5 => have := HB.out.size; simp; omega
          intro v' w2 hown hgr _
          have HBN := Lib.hid ((HB.out.alloc HB.out.size _).grown hgr (by have := HB.out.size; simp; omega) fun j ej => (HO.out.lt j ej).1)
          have HON := Lib.hid (show ∃ xs, w2.ownsRow w.heap.size 5 1 v' (k + 1) xs ∧ xs = byV ((s.data.toList.take (k + 1)).map M.low) from ⟨_, hown, by rw [← HT.out, HLN.out, HXE.out]⟩)
          clear hown hgr HO HB
          go_wp2_with fail
          go_roundw
          case rel => exact ⟨k + 1, by omega, by go_num, HON, HBN⟩
          case measure => simp [intOf]; omega
        · have g1 : decide ((65 : Int) ≤ (s[k].toNat : Int)) = false := decide_eq_false (by omega)
          clear hc
          go_wp2_with (at_builtin; refine wpList_append_own _ rfl _ _ 73 rfl w.heap.size 5 i0 (.int .u8 0) 1 1 Tryz.underlying73 hi hz0 hz1 hz2 rfl (by decide) _ _ _ rfl (HO.out.alloc _) ⟨wr.heap.size, 0, none⟩ 1 1 [.int .u8 s[k].toNat] rfl rfl ?c1 ?c2 ?c3 ?c4 ?c5 ?_)
          case c1 =>
            intro j u hj
            match j, hj with
            | 0, hj => simp at hj; subst hj; simp [Addr.add]
          case c2 => intro u hu; simp at hu; subst hu; rfl
          case c3 => unfold maxLen; omega
          case c4 => omega
          case c5 => have := HB.out.size; simp; omega
          intro v' w2 hown hgr _
          have HBN := Lib.hid ((HB.out.alloc HB.out.size _).grown hgr (by have := HB.out.size; simp; omega) fun j ej => (HO.out.lt j ej).1)
          have HON := Lib.hid (show ∃ xs, w2.ownsRow w.heap.size 5 1 v' (k + 1) xs ∧ xs = byV ((s.data.toList.take (k + 1)).map M.low) from ⟨_, hown, by rw [← HT.out, HLN.out, HXE.out]⟩)
          clear hown hgr HO HB
          go_wp2_with fail
          go_roundw
          case rel => exact ⟨k + 1, by omega, by go_num, HON, HBN⟩
          case measure => simp [intOf]; omega
    · have hks : k = s.size := by omega
      subst hks
      have hO := HO.out
      have hxe := HXE.out
      rw [List.take_of_length_le (by rw [Ks.len_list]; exact Nat.le_refl _)] at hxe
      subst hxe
      have HE := Lib.hid (show lowS s = ⟨(s.data.toList.map M.low).toArray⟩ from rfl)
      rcases hO.2 with ⟨hv, h0⟩ | ⟨g, cap, cur, hv, _, hgb, hnc, _, hcs, htk⟩
      · subst hv
        have hnil : s.data.toList = [] := List.eq_nil_of_length_eq_zero (by rw [Ks.len_list]; exact h0)
        have kb : (convert 73 9 (.slice none s.size 0)).run Tryz.prog wr = .ok (.string ⟨#[]⟩) wr := by rw [h0]; exact nil_back wr
        have HF := Lib.hid (show lowS s = ⟨#[]⟩ from by rw [HE.out, hnil]; rfl)
        have hz : s.size = 0 := h0
        rw [hz] at kb
        clear hO hnil HO HXE h0 HE
        go_wp2_with fail
        go_ret
        exact ⟨by rw [HF.out]; rfl, HB.out⟩
      · subst hv
        have kb : (convert 73 9 (.slice (some ⟨g, 0, none⟩) s.size cap)).run Tryz.prog wr = .ok (.string ⟨(s.data.toList.map M.low).toArray⟩) wr := by
          have := run_convert_bytes_back (P := Tryz.prog) wr 73 9 5 ⟨g, 0, none⟩ cap (s.data.toList.map M.low) Tryz.underlying73 Tryz.underlying5 Tryz.underlying9 (fun j hj => by
            rw [Addr.add_lit, Nat.zero_add, hO.cellAt j (by rw [List.length_map, Ks.len_list] at hj; omega)]
            simp only [byV, List.getElem?_map]
            rw [List.getElem?_eq_getElem (by simpa using hj)]
            simp)
          rw [List.length_map, Ks.len_list] at this
          exact this
        rw [← HE.out] at kb
        obtain ⟨t, ht⟩ : ∃ t, lowS s = t := ⟨_, rfl⟩
        have HT := Lib.hid ht
        rw [ht] at kb
        clear hO HO HXE HE hgb hcs htk hnc ht
        go_wp2_with fail
        go_ret
        exact ⟨by rw [HT.out]; rfl, HB.out⟩
end Go.Proofs.YtempmmkdppelaaaGreatDoor
