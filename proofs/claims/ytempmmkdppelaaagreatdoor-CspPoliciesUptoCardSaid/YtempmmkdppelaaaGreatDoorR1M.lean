import Derived.Test.YtempmmkdppelaaaGreatDoorBKM
/-
  The document's blank, word, Lower.
-/
namespace Go.Proofs.YtempmmkdppelaaaGreatDoor
open Go.RowKit
set_option maxHeartbeats 2000000 in
theorem rblank_is (b : UInt8) (r : Bool) (hr : blankB b = r) (w : World) : Calls Tryz.prog 59 #[.int .u8 b.toNat] w fun e w' => e = .returned (.bool r) ∧ w' = w := by
  unfold blankB blanksL at hr
  simp only [List.contains_cons, List.contains_nil, Bool.or_false] at hr
  by_cases h1 : b = 9
  · have g1 := byte_eq 9 rfl h1
    have hr2 : r = true := by rw [← hr, h1]; rfl
    subst hr2
    clear hr h1
    go_enter Tryz.func59, Tryz.ntmps59
    go_wp2
    go_ret
    exact ⟨rfl, rfl⟩
  have g1 := byte_ne 9 rfl h1
  by_cases h2 : b = 10
  · have g2 := byte_eq 10 rfl h2
    have hr2 : r = true := by rw [← hr, h2]; rfl
    subst hr2
    clear hr h1 h2
    go_enter Tryz.func59, Tryz.ntmps59
    go_wp2
    go_ret
    exact ⟨rfl, rfl⟩
  have g2 := byte_ne 10 rfl h2
  by_cases h3 : b = 12
  · have g3 := byte_eq 12 rfl h3
    have hr2 : r = true := by rw [← hr, h3]; rfl
    subst hr2
    clear hr h1 h2 h3
    go_enter Tryz.func59, Tryz.ntmps59
    go_wp2
    go_ret
    exact ⟨rfl, rfl⟩
  have g3 := byte_ne 12 rfl h3
  by_cases h4 : b = 13
  · have g4 := byte_eq 13 rfl h4
    have hr2 : r = true := by rw [← hr, h4]; rfl
    subst hr2
    clear hr h1 h2 h3 h4
    go_enter Tryz.func59, Tryz.ntmps59
    go_wp2
    go_ret
    exact ⟨rfl, rfl⟩
  have g4 := byte_ne 13 rfl h4
  have hr2 : r = ((b.toNat : Int) == 32) := by
    rw [← hr, Bool.eq_iff_iff]
    simp only [Bool.or_eq_true, beq_iff_eq, h1, h2, h3, h4, false_or]
    constructor
    · intro e; rw [e]; rfl
    · intro e; exact UInt8.toNat_inj.1 (show b.toNat = (32 : UInt8).toNat by have : (32 : UInt8).toNat = 32 := rfl; omega)
  subst hr2
  clear hr h1 h2 h3 h4
  go_enter Tryz.func59, Tryz.ntmps59
  go_wp2
  go_ret
  exact ⟨rfl, rfl⟩
theorem wordB_no {s : ByteArray} {k : Nat} (hk : k < s.size) (h : blankB s[k] = true ∨ s[k] = 59) : wordB s = false := by
  cases hw : wordB s with
  | false => rfl
  | true =>
    have := ((word_iff s).1 hw).2 s[k] (by
      have : s.data.toList[k]'(by rw [Ks.len_list]; exact hk) = s[k] := rfl
      rw [← this]; exact List.getElem_mem _)
    rcases h with h | h
    · rw [this.1] at h; cases h
    · exact absurd h this.2
set_option maxHeartbeats 1000000 in
set_option maxRecDepth 100000 in
theorem rword_is (s : ByteArray) (hs : s.size ≤ 281474976710656) (r : Bool) (hr : wordB s = r) (w : World) : Calls Tryz.prog 48 #[.string s] w fun e w' => e = .returned (.bool r) ∧ w' = w := by
  have HR := Lib.hid hr
  clear hr
  go_enter Tryz.func48, Tryz.ntmps48
  go_wp2_with fail
  go_loopw [3] (fun i wr => ∃ k : Nat, k ≤ s.size ∧ i = .int .i64 k ∧ Hid (∀ (j : Nat) b, j < k → s.data.toList[j]? = some b → blankB b = false ∧ b ≠ 59) ∧ wr = w) (fun i _ => s.size - (intOf i).toNat)
  case atStart => exact ⟨0, by omega, rfl, Lib.hid (fun j b hj => by omega), rfl⟩
  case round =>
    obtain ⟨k, hk, rfl, HE, rfl⟩ := hrel
    by_cases hlt : k < s.size
    · have i1 : (k : Int) < (s.size : Int) := by omega
      have hbk : s.data.toList[k]? = some s[k] := by rw [List.getElem?_eq_getElem (by rw [Ks.len_list]; exact hlt)]; rfl
      obtain ⟨x, hx⟩ : ∃ x, blankB s[k] = x := ⟨_, rfl⟩
      have HB := Lib.hid (fun W : World => rblank_is s[k] x hx W)
      cases x with
      | true =>
        have HF := Lib.hid (show r = false by rw [← HR.out]; exact wordB_no hlt (.inl hx))
        clear hx hbk
        go_wp2_with (go_at_call 59; refine (HB.out _).mono ?_; rintro e w1 ⟨rfl, rfl⟩)
        go_ret
        exact ⟨ret_bool HF.out.symm, rfl⟩
      | false =>
        by_cases h59 : s[k] = 59
        · have g := byte_eq 59 rfl h59
          have HF := Lib.hid (show r = false by rw [← HR.out]; exact wordB_no hlt (.inr h59))
          clear hx hbk h59
          go_wp2_with (go_at_call 59; refine (HB.out _).mono ?_; rintro e w1 ⟨rfl, rfl⟩)
          go_ret
          exact ⟨ret_bool HF.out.symm, rfl⟩
        · have g := byte_ne 59 rfl h59
          have HT := Lib.hid (show ∀ (j : Nat) b, j < k + 1 → s.data.toList[j]? = some b → blankB b = false ∧ b ≠ 59 from fun j b hj hb => by
            by_cases hjk : j = k
            · subst hjk; rw [hbk] at hb; cases hb; exact ⟨hx, h59⟩
            · exact HE.out j b (by omega) hb)
          clear hx hbk h59 HE
          go_wp2_with (go_at_call 59; refine (HB.out _).mono ?_; rintro e w1 ⟨rfl, rfl⟩)
          go_roundw
          case rel => exact ⟨k + 1, by omega, by go_num, HT, trivial⟩
          case measure => simp [intOf]; omega
    · have HE2 := Lib.hid (show s.toList.isEmpty = !r from by
        rw [← HR.out, ByteArray.toList_eq]
        cases hw : wordB s with
        | true =>
          have := ((word_iff s).1 hw).1
          cases hs : s.data.toList with
          | nil => exact absurd hs this
          | cons _ _ => rfl
        | false =>
          cases hs : s.data.toList with
          | nil => rfl
          | cons a t =>
            refine absurd ((word_iff s).2 ⟨by rw [hs]; simp, fun b hb => ?_⟩) (by rw [hw]; simp)
            obtain ⟨j, hj, rfl⟩ := List.getElem_of_mem hb
            exact HE.out j _ (by rw [Ks.len_list] at hj; omega) (getT hj))
      clear HE
      go_wp2_with fail
      go_ret
      exact ⟨ret_bool (by rw [HE2.out]; simp), rfl⟩
end Go.Proofs.YtempmmkdppelaaaGreatDoor
/-
  The document's Lower.
-/
namespace Go.Proofs.YtempmmkdppelaaaGreatDoor
open Go.RowKit
theorem nil_back (w : World) : (convert 73 9 (.slice none 0 0)).run Tryz.prog w = .ok (.string ⟨#[]⟩) w := by
  simp [convert, run_underlying Tryz.underlying73, run_underlying Tryz.underlying9, run_underlying Tryz.underlying5, go_sem, Conv.bytesToString, loadCells, loadCellsFrom]
  rfl
def byV (l : List UInt8) : List Value := l.map fun b => .int .u8 b.toNat
set_option maxHeartbeats 2000000 in
set_option maxRecDepth 100000 in
theorem rlower_is (s : ByteArray) (hs : s.size ≤ 70368744177664) (w : World) : Calls Tryz.prog 41 #[.string s] w fun e w' => e = .returned (.string (lowS s)) ∧ Below w.heap.size w w' := by
  obtain ⟨i0, hi, hz0, hz1, hz2⟩ := info_parts infoByteT
  go_enter Tryz.func41, Tryz.ntmps41
  go_wp2_with fail
  go_loopw [3, 4] (fun v i wr => ∃ k : Nat, k ≤ s.size ∧ i = .int .i64 k ∧ Hid (∃ xs, wr.ownsRow w.heap.size 5 1 v k xs ∧ xs = byV ((s.data.toList.take k).map M.low)) ∧ Hid (Below w.heap.size w wr)) (fun _ i _ => s.size - (intOf i).toNat)
  case atStart => exact ⟨0, by omega, rfl, Lib.hid ⟨[], World.ownsRow_nil _ _ _ _, by simp [byV]⟩, Lib.hid (Below.refl _ _)⟩
  case round =>
    obtain ⟨k, hk, rfl, HO0, HB⟩ := hrel
    obtain ⟨xs, hxo, hxe⟩ := HO0.out
    have HO := Lib.hid hxo
    have HXE := Lib.hid hxe
    clear hxo hxe HO0
    by_cases hlt : k < s.size
    · have i1 : (k : Int) < (s.size : Int) := by omega
      have hbk : s.data.toList[k]? = some s[k] := by rw [List.getElem?_eq_getElem (by rw [Ks.len_list]; exact hlt)]; rfl
      have HT := Lib.hid (show byV ((s.data.toList.take k).map M.low) ++ [.int .u8 (M.low s[k]).toNat] = byV ((s.data.toList.take (k + 1)).map M.low) from by
        obtain ⟨hkl, e⟩ := List.getElem?_eq_some_iff.1 hbk
        rw [List.take_succ_eq_append_getElem hkl, e]
        simp [byV])
      have hln := low_nat s[k]
      clear hbk
      obtain ⟨q, c, rfl⟩ := own_any HO.out
      by_cases hc : 65 ≤ s[k].toNat ∧ s[k].toNat ≤ 90
      · rw [if_pos hc] at hln
        have g1 : decide ((65 : Int) ≤ (s[k].toNat : Int)) = true := decide_eq_true (by omega)
        have g2 : decide ((s[k].toNat : Int) ≤ 90) = true := decide_eq_true (by omega)
        have hln' : ((M.low s[k]).toNat : Int) = (s[k].toNat : Int) + 32 := by omega
        have gw : IntKind.u8.wrap ((s[k].toNat : Int) + 32) = (s[k].toNat : Int) + 32 := by
          have : s[k].toNat + 32 < 256 := by omega
          unfold IntKind.wrap IntKind.signed IntKind.bits
          simp; omega
        have HLN := Lib.hid hln'
        clear hln hc hln'
        go_wp2_with (at_builtin; refine wpList_append_own _ rfl _ _ 73 rfl w.heap.size 5 i0 (.int .u8 0) 1 1 Tryz.underlying73 hi hz0 hz1 hz2 rfl (by decide) _ _ _ rfl (HO.out.alloc _) ⟨wr.heap.size, 0, none⟩ 1 1 [.int .u8 ((s[k].toNat : Int) + 32)] rfl rfl ?c1 ?c2 ?c3 ?c4 ?c5 ?_)
        case c1 =>
          intro j u hj
          match j, hj with
          | 0, hj => simp at hj; subst hj; simp [Addr.add]
        case c2 => intro u hu; simp at hu; subst hu; rfl
        case c3 => unfold maxLen; omega
        case c4 => omega
        case c5 => have := HB.out.size; simp; omega
        intro v' w2 hown hgr _
        have HBN := Lib.hid ((HB.out.alloc HB.out.size _).grown hgr (by have := HB.out.size; simp; omega) fun j ej => (HO.out.lt j ej).1)
        have HON := Lib.hid (show ∃ xs, w2.ownsRow w.heap.size 5 1 v' (k + 1) xs ∧ xs = byV ((s.data.toList.take (k + 1)).map M.low) from ⟨_, hown, by rw [← HT.out, HLN.out, HXE.out]⟩)
        clear hown hgr HO HB
        go_wp2_with fail
        go_roundw
        case rel => exact ⟨k + 1, by omega, by go_num, HON, HBN⟩
        case measure => simp [intOf]; omega
      · rw [if_neg hc] at hln
        have hln' : ((M.low s[k]).toNat : Int) = (s[k].toNat : Int) := by omega
        have HLN := Lib.hid hln'
        clear hln hln'
        by_cases h1 : 65 ≤ s[k].toNat
        · have g1 : decide ((65 : Int) ≤ (s[k].toNat : Int)) = true := decide_eq_true (by omega)
          have g2 : decide ((s[k].toNat : Int) ≤ 90) = false := decide_eq_false (by omega)
          clear hc
          go_wp2_with (at_builtin; refine wpList_append_own _ rfl _ _ 73 rfl w.heap.size 5 i0 (.int .u8 0) 1 1 Tryz.underlying73 hi hz0 hz1 hz2 rfl (by decide) _ _ _ rfl (HO.out.alloc _) ⟨wr.heap.size, 0, none⟩ 1 1 [.int .u8 s[k].toNat] rfl rfl ?c1 ?c2 ?c3 ?c4 ?c5 ?_)
          case c1 =>
            intro j u hj
            match j, hj with
            | 0, hj => simp at hj; subst hj; simp [Addr.add]
          case c2 => intro u hu; simp at hu; subst hu; rfl
          case c3 => unfold maxLen; omega
          case c4 => omega
          case c5 => have := HB.out.size; simp; omega
          intro v' w2 hown hgr _
          have HBN := Lib.hid ((HB.out.alloc HB.out.size _).grown hgr (by have := HB.out.size; simp; omega) fun j ej => (HO.out.lt j ej).1)
          have HON := Lib.hid (show ∃ xs, w2.ownsRow w.heap.size 5 1 v' (k + 1) xs ∧ xs = byV ((s.data.toList.take (k + 1)).map M.low) from ⟨_, hown, by rw [← HT.out, HLN.out, HXE.out]⟩)
          clear hown hgr HO HB
          go_wp2_with fail
          go_roundw
          case rel => exact ⟨k + 1, by omega, by go_num, HON, HBN⟩
          case measure => simp [intOf]; omega
        · have g1 : decide ((65 : Int) ≤ (s[k].toNat : Int)) = false := decide_eq_false (by omega)
          clear hc
          go_wp2_with (at_builtin; refine wpList_append_own _ rfl _ _ 73 rfl w.heap.size 5 i0 (.int .u8 0) 1 1 Tryz.underlying73 hi hz0 hz1 hz2 rfl (by decide) _ _ _ rfl (HO.out.alloc _) ⟨wr.heap.size, 0, none⟩ 1 1 [.int .u8 s[k].toNat] rfl rfl ?c1 ?c2 ?c3 ?c4 ?c5 ?_)
          case c1 =>
            intro j u hj
            match j, hj with
            | 0, hj => simp at hj; subst hj; simp [Addr.add]
          case c2 => intro u hu; simp at hu; subst hu; rfl
          case c3 => unfold maxLen; omega
          case c4 => omega
          case c5 => have := HB.out.size; simp; omega
          intro v' w2 hown hgr _
          have HBN := Lib.hid ((HB.out.alloc HB.out.size _).grown hgr (by have := HB.out.size; simp; omega) fun j ej => (HO.out.lt j ej).1)
          have HON := Lib.hid (show ∃ xs, w2.ownsRow w.heap.size 5 1 v' (k + 1) xs ∧ xs = byV ((s.data.toList.take (k + 1)).map M.low) from ⟨_, hown, by rw [← HT.out, HLN.out, HXE.out]⟩)
          clear hown hgr HO HB
          go_wp2_with fail
          go_roundw
          case rel => exact ⟨k + 1, by omega, by go_num, HON, HBN⟩
          case measure => simp [intOf]; omega
    · have hks : k = s.size := by omega
      subst hks
      have hO := HO.out
      have hxe := HXE.out
      rw [List.take_of_length_le (by rw [Ks.len_list]; exact Nat.le_refl _)] at hxe
      subst hxe
      have HE := Lib.hid (show lowS s = ⟨(s.data.toList.map M.low).toArray⟩ from rfl)
      rcases hO.2 with ⟨hv, h0⟩ | ⟨g, cap, cur, hv, _, hgb, hnc, _, hcs, htk⟩
      · subst hv
        have hnil : s.data.toList = [] := List.eq_nil_of_length_eq_zero (by rw [Ks.len_list]; exact h0)
        have kb : (convert 73 9 (.slice none s.size 0)).run Tryz.prog wr = .ok (.string ⟨#[]⟩) wr := by rw [h0]; exact nil_back wr
        have HF := Lib.hid (show lowS s = ⟨#[]⟩ from by rw [HE.out, hnil]; rfl)
        have hz : s.size = 0 := h0
        rw [hz] at kb
        clear hO hnil HO HXE h0 HE
        go_wp2_with fail
        go_ret
        exact ⟨by rw [HF.out]; rfl, HB.out⟩
      · subst hv
        have kb : (convert 73 9 (.slice (some ⟨g, 0, none⟩) s.size cap)).run Tryz.prog wr = .ok (.string ⟨(s.data.toList.map M.low).toArray⟩) wr := by
          have := run_convert_bytes_back (P := Tryz.prog) wr 73 9 5 ⟨g, 0, none⟩ cap (s.data.toList.map M.low) Tryz.underlying73 Tryz.underlying5 Tryz.underlying9 (fun j hj => by
            rw [Addr.add_lit, Nat.zero_add, hO.cellAt j (by rw [List.length_map, Ks.len_list] at hj; omega)]
            simp only [byV, List.getElem?_map]
            rw [List.getElem?_eq_getElem (by simpa using hj)]
            simp)
          rw [List.length_map, Ks.len_list] at this
          exact this
        rw [← HE.out] at kb
        obtain ⟨t, ht⟩ : ∃ t, lowS s = t := ⟨_, rfl⟩
        have HT := Lib.hid ht
        rw [ht] at kb
        clear hO HO HXE HE hgb hcs htk hnc ht
        go_wp2_with fail
        go_ret
        exact ⟨by rw [HT.out]; rfl, HB.out⟩
end Go.Proofs.YtempmmkdppelaaaGreatDoor
