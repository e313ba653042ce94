/-
  The contract of the reference package bastionref01 for Decode: for every text of at most 2^47 bytes it answers what the plain function dec of the mathematics text answers; nothing that was there is changed.
-/
import Derived.Test.YtdpmobikelcafaaRefC
namespace Go.Proofs.Ytdpmobikelcafaa
open Go.RowKit M
theorem esc_some_at (t : ByteArray) (k : Nat) (v : UInt8) (h : escL (t.data.toList.drop k) = some v) : ∃ h2 : k + 2 < t.size, t[k] = 37 ∧ hexv t[k + 1].toNat < 16 ∧ hexv t[k + 2].toNat < 16 ∧ v = UInt8.ofNat (hexv t[k + 1].toNat * 16 + hexv t[k + 2].toNat) := by
  have h3 := (dec_some h).1
  have h2 : k + 2 < t.size := by simp at h3; omega
  rw [drop_cons t k (by omega), drop_cons t (k + 1) (by omega), drop_cons t (k + 1 + 1) (by omega)] at h
  simp only [escL] at h
  refine ⟨h2, ?_⟩
  by_cases hc : t[k] = 37 ∧ hexv t[k + 1].toNat < 16 ∧ hexv t[k + 1 + 1].toNat < 16
  · rw [if_pos hc] at h
    exact ⟨hc.1, hc.2.1, hc.2.2, (Option.some.inj h).symm⟩
  · rw [if_neg hc] at h; cases h
theorem esc_none_at (t : ByteArray) (k : Nat) (hk : k < t.size) (h : escL (t.data.toList.drop k) = none) : ¬ t[k] = 37 ∨ t.size ≤ k + 2 ∨ ∃ h2 : k + 2 < t.size, t[k] = 37 ∧ (¬ hexv t[k + 1].toNat < 16 ∨ (hexv t[k + 1].toNat < 16 ∧ ¬ hexv t[k + 2].toNat < 16)) := by
  by_cases h0 : t[k] = 37
  · by_cases h2 : k + 2 < t.size
    · refine .inr (.inr ⟨h2, h0, ?_⟩)
      rw [drop_cons t k (by omega), drop_cons t (k + 1) (by omega), drop_cons t (k + 1 + 1) (by omega)] at h
      simp only [escL] at h
      by_cases hc : t[k] = 37 ∧ hexv t[k + 1].toNat < 16 ∧ hexv t[k + 1 + 1].toNat < 16
      · rw [if_pos hc] at h; cases h
      · by_cases h1 : hexv t[k + 1].toNat < 16
        · exact .inr ⟨h1, fun h3 => hc ⟨h0, h1, h3⟩⟩
        · exact .inl h1
    · exact .inr (.inl (by omega))
  · exact .inl h0
theorem rdigit_q (b : Nat) (hb : b < 256) (w : World) : Calls Try.prog 50 #[.int .u8 b] w fun e w' => e = .returned (.int .u8 (hexv b)) ∧ w' = w := (rdigit b hb w).mono fun _ _ ⟨h, e⟩ => ⟨h, e.symm⟩
theorem ne37 (u : UInt8) (h : ¬ u = 37) : ((u.toNat : Int) == 37) = false := by
  rw [beq_eq_false_iff_ne]; intro e; exact h (UInt8.toNat_inj.1 (by show _ = 37; omega))
theorem eq37 (u : UInt8) (h : u = 37) : ((u.toNat : Int) == 37) = true := by rw [h]; rfl
theorem mul16 (a b : Nat) (ha : a < 16) (hb : b < 16) : IntKind.u8.wrap ((a : Int) * 16) = (a : Int) * 16 ∧ IntKind.u8.wrap ((a : Int) * 16 + (b : Int)) = (a : Int) * 16 + (b : Int) ∧ ((UInt8.ofNat (a * 16 + b)).toNat : Int) = (a : Int) * 16 + (b : Int) := by
  refine ⟨?_, ?_, ?_⟩
  · rw [IntKind.wrap_u8']; omega
  · rw [IntKind.wrap_u8']; omega
  · rw [UInt8.toNat_ofNat', Nat.mod_eq_of_lt (by omega)]; omega
theorem idx12 (k n : Nat) (h : k + 2 < n) (hn : n ≤ 9223372036854775807) : IntKind.i64.wrap ((k : Int) + 1) = (k : Int) + 1 ∧ IntKind.i64.wrap ((k : Int) + 2) = (k : Int) + 2 ∧ 0 ≤ (k : Int) + 1 ∧ 0 ≤ (k : Int) + 2 ∧ ((k : Int) + 1).toNat = k + 1 ∧ ((k : Int) + 2).toNat = k + 2 ∧ (k : Int) + 1 < (n : Int) ∧ (k : Int) + 2 < (n : Int) := by
  refine ⟨IntWalk.i64_in _ (by omega), IntWalk.i64_in _ (by omega), by omega, by omega, by omega, by omega, by omega, by omega⟩
set_option maxHeartbeats 1000000 in
theorem rdecode (t : ByteArray) (ht : t.size ≤ 140737488355328) (w : World) :
    Calls Try.prog 23 #[.string t] w fun e w' => e = .returned (.string ⟨(dec t.data.toList).toArray⟩) ∧ Below w.heap.size w w' := by
  obtain ⟨i0, hi, hz0, hz1, hz2⟩ := info_parts infoByte
  go_enter Try.func23, Try.ntmps23
  go_wp2
  go_loopw [3, 4] (fun v i wr => ∃ (k : Nat) (acc : List UInt8), k ≤ t.size ∧ i = .int .i64 k ∧ Own w.heap.size v acc wr ∧ acc.length ≤ k ∧ Hid (acc ++ dec (t.data.toList.drop k) = dec t.data.toList) ∧ Below w.heap.size w wr) (fun _ i _ => t.size - (intOf i).toNat)
  case atStart => exact ⟨0, [], by omega, rfl, World.ownsRow_nil _ _ _ _, by simp, Lib.hid rfl, Below.refl _ _⟩
  case round =>
    obtain ⟨k, acc, hk, rfl, hown, hal, HD, hbel⟩ := hrel
    have hsz := hbel.size
    by_cases hlt : k < t.size
    · have HO := Lib.hid hown
      have hu := t[k].toNat_lt
      have HC := Lib.hid (drop_cons t k hlt)
      clear hown
      cases he : escL (t.data.toList.drop k) with
      | some v =>
        have HD2 := Lib.hid (dec_some he).2
        obtain ⟨h2, e0, e1, e2, ev⟩ := esc_some_at t k v he
        have z0 := eq37 _ e0
        have hu1 := t[k + 1].toNat_lt
        have hu2 := t[k + 2].toNat_lt
        have HM := Lib.hid (mul16 _ _ e1 e2)
        have HX := Lib.hid (idx12 k t.size h2 (by omega))
        have HV := Lib.hid ev
        clear he e0 ev
        go_wp2_with (go_at_call 50; refine (rdigit _ (by omega) _).mono ?_; rintro e w3 ⟨rfl, rfl⟩)
        obtain ⟨m1, m2, _⟩ := HM.out
        obtain ⟨x1, x2, x3, x4, x5, x6, x7, x8⟩ := HX.out
        go_region_law (first | (refine step_append_own rfl _ _ 37 rfl w.heap.size 5 i0 (.int .u8 0) 1 1 Try.underlying37 hi hz0 hz1 hz2 rfl (by decide) _ _ _ rfl (by exact HO.out.alloc _) ⟨wr.heap.size, 0, none⟩ 1 1 [.int .u8 ((hexv t[k + 1].toNat : Int) * 16 + (hexv t[k + 2].toNat : Int))] rfl rfl (by exact lit_one _ _) (one_cell _) (by unfold maxLen; omega) (by omega) (by simp; omega) ?_; intro v' w1 hown' hgrow _; have HO2 := Lib.hid hown'; clear hown') | (go_simp; go_at_call 50; refine (rdigit _ (by omega) _).mono ?_; rintro e w3 ⟨rfl, rfl⟩))
        all_goals
          go_wp2
          go_roundw
          case rel =>
            refine ⟨k + 3, acc ++ [v], by omega, by go_num, ?_, by simp; omega, Lib.hid ?_, (hbel.drew.alloc (by simp; omega) _).grown hgrow (by simp; omega) (fun k hk => (HO.out.lt k hk).1)⟩
            · exact own_snoc (by rw [HV.out, HM.out.2.2]; exact HO2.out)
            · rw [← HD.out, HD2.out, List.drop_drop, List.append_assoc]; rfl
          case measure => simp [intOf]; omega
      | none =>
        have HD2 := Lib.hid (dec_none (by rw [← drop_cons t k hlt]; exact he))
        have hcs := esc_none_at t k hlt he
        clear he
        rcases hcs with h0 | h2 | ⟨h2, h0, h1 | ⟨h1, h3⟩⟩
        · have z0 := ne37 _ h0
          clear h0
          go_wp2_with (first | (go_at_call 50; refine (rdigit _ (by omega) _).mono ?_; rintro e w3 ⟨rfl, rfl⟩) | (at_builtin; refine wpList_append_own _ rfl _ _ 37 rfl w.heap.size 5 i0 (.int .u8 0) 1 1 Try.underlying37 hi hz0 hz1 hz2 rfl (by decide) _ _ _ rfl (HO.out.alloc _) ⟨wr.heap.size, 0, none⟩ 1 1 [.int .u8 (t[k].toNat : Int)] rfl rfl (lit_one _ _) (one_cell _) (by unfold maxLen; omega) (by omega) (by simp; omega) ?_; intro v' w1 hown' hgrow _; have HO2 := Lib.hid hown'; clear hown'))
          go_roundw
          case rel =>
            refine ⟨k + 1, acc ++ [t[k]], by omega, by go_num, own_snoc HO2.out, by simp; omega, Lib.hid ?_, (hbel.alloc (by omega) _).grown hgrow (by simp; omega) (fun k hk => (HO.out.lt k hk).1)⟩
            rw [← HD.out, HC.out, HD2.out, List.append_assoc]; rfl
          case measure => simp [intOf]; omega
        · by_cases h0 : t[k] = 37
          · have z0 := eq37 _ h0
            clear h0
            go_wp2_with (first | (go_at_call 50; refine (rdigit _ (by omega) _).mono ?_; rintro e w3 ⟨rfl, rfl⟩) | (at_builtin; refine wpList_append_own _ rfl _ _ 37 rfl w.heap.size 5 i0 (.int .u8 0) 1 1 Try.underlying37 hi hz0 hz1 hz2 rfl (by decide) _ _ _ rfl (HO.out.alloc _) ⟨wr.heap.size, 0, none⟩ 1 1 [.int .u8 (t[k].toNat : Int)] rfl rfl (lit_one _ _) (one_cell _) (by unfold maxLen; omega) (by omega) (by simp; omega) ?_; intro v' w1 hown' hgrow _; have HO2 := Lib.hid hown'; clear hown'))
            go_roundw
            case rel =>
              refine ⟨k + 1, acc ++ [t[k]], by omega, by go_num, own_snoc HO2.out, by simp; omega, Lib.hid ?_, (hbel.alloc (by omega) _).grown hgrow (by simp; omega) (fun k hk => (HO.out.lt k hk).1)⟩
              rw [← HD.out, HC.out, HD2.out, List.append_assoc]; rfl
            case measure => simp [intOf]; omega
          · have z0 := ne37 _ h0
            clear h0
            go_wp2_with (first | (go_at_call 50; refine (rdigit _ (by omega) _).mono ?_; rintro e w3 ⟨rfl, rfl⟩) | (at_builtin; refine wpList_append_own _ rfl _ _ 37 rfl w.heap.size 5 i0 (.int .u8 0) 1 1 Try.underlying37 hi hz0 hz1 hz2 rfl (by decide) _ _ _ rfl (HO.out.alloc _) ⟨wr.heap.size, 0, none⟩ 1 1 [.int .u8 (t[k].toNat : Int)] rfl rfl (lit_one _ _) (one_cell _) (by unfold maxLen; omega) (by omega) (by simp; omega) ?_; intro v' w1 hown' hgrow _; have HO2 := Lib.hid hown'; clear hown'))
            go_roundw
            case rel =>
              refine ⟨k + 1, acc ++ [t[k]], by omega, by go_num, own_snoc HO2.out, by simp; omega, Lib.hid ?_, (hbel.alloc (by omega) _).grown hgrow (by simp; omega) (fun k hk => (HO.out.lt k hk).1)⟩
              rw [← HD.out, HC.out, HD2.out, List.append_assoc]; rfl
            case measure => simp [intOf]; omega
        · have z0 := eq37 _ h0
          have hu1 := t[k + 1].toNat_lt
          have hn : decide (((hexv t[k + 1].toNat : Nat) : Int) < 16) = false := by simp; omega
          clear h0
          go_wp2_with (first | (go_at_call 50; refine (rdigit _ (by omega) _).mono ?_; rintro e w3 ⟨rfl, rfl⟩) | (at_builtin; refine wpList_append_own _ rfl _ _ 37 rfl w.heap.size 5 i0 (.int .u8 0) 1 1 Try.underlying37 hi hz0 hz1 hz2 rfl (by decide) _ _ _ rfl (HO.out.alloc _) ⟨wr.heap.size, 0, none⟩ 1 1 [.int .u8 (t[k].toNat : Int)] rfl rfl (lit_one _ _) (one_cell _) (by unfold maxLen; omega) (by omega) (by simp; omega) ?_; intro v' w1 hown' hgrow _; have HO2 := Lib.hid hown'; clear hown'))
          go_roundw
          case rel =>
            refine ⟨k + 1, acc ++ [t[k]], by omega, by go_num, own_snoc HO2.out, by simp; omega, Lib.hid ?_, (hbel.alloc (by omega) _).grown hgrow (by simp; omega) (fun k hk => (HO.out.lt k hk).1)⟩
            rw [← HD.out, HC.out, HD2.out, List.append_assoc]; rfl
          case measure => simp [intOf]; omega
        · have z0 := eq37 _ h0
          have hu1 := t[k + 1].toNat_lt
          have hu2 := t[k + 2].toNat_lt
          have hn : decide (((hexv t[k + 2].toNat : Nat) : Int) < 16) = false := by simp; omega
          clear h0
          go_wp2_with (first | (go_at_call 50; refine (rdigit _ (by omega) _).mono ?_; rintro e w3 ⟨rfl, rfl⟩) | (at_builtin; refine wpList_append_own _ rfl _ _ 37 rfl w.heap.size 5 i0 (.int .u8 0) 1 1 Try.underlying37 hi hz0 hz1 hz2 rfl (by decide) _ _ _ rfl (HO.out.alloc _) ⟨wr.heap.size, 0, none⟩ 1 1 [.int .u8 (t[k].toNat : Int)] rfl rfl (lit_one _ _) (one_cell _) (by unfold maxLen; omega) (by omega) (by simp; omega) ?_; intro v' w1 hown' hgrow _; have HO2 := Lib.hid hown'; clear hown'))
          go_roundw
          case rel =>
            refine ⟨k + 1, acc ++ [t[k]], by omega, by go_num, own_snoc HO2.out, by simp; omega, Lib.hid ?_, (hbel.alloc (by omega) _).grown hgrow (by simp; omega) (fun k hk => (HO.out.lt k hk).1)⟩
            rw [← HD.out, HC.out, HD2.out, List.append_assoc]; rfl
          case measure => simp [intOf]; omega
    · have kb := own_back (P := Try.prog) hown Try.underlying37 Try.underlying5 Try.underlying9
      have HF := Lib.hid (show acc = dec t.data.toList by
        rw [← HD.out, List.drop_of_length_le (by simp; omega), dec_nil, List.append_nil])
      clear hown
      go_wp2
      go_ret
      exact ⟨by rw [← HF.out]; rfl, hbel⟩
end Go.Proofs.Ytdpmobikelcafaa
