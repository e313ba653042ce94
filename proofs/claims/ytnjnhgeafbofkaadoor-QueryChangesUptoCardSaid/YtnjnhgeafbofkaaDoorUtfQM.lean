import Derived.Test.YtnjnhgeafbofkaaDoorUtfPM
import Derived.Test.YtnjnhgeafbofkaaDoorUtfIM
namespace Go.Proofs.YtnjnhgeafbofkaaDoor
open Go.RowKit
theorem own_runes {w : World} {base : Nat} {v : Value} {l : List Int} (hr : w.ownsRow base 21 1 v l.length (l.map (Value.int .i32))) : RunesAt w v l := by
  have hr0 := hr
  rcases hr.2 with ⟨rfl, h0⟩ | ⟨g, cap, cur, rfl, hb, hgb, _⟩
  · have : l = [] := List.eq_nil_of_length_eq_zero h0
    subst this
    exact ⟨none, 0, rfl, fun k x hk => by simp at hk⟩
  · refine ⟨_, cap, rfl, fun k x hk => ⟨g, 0, rfl, (Array.getElem?_eq_some_iff.1 hgb).1, ?_⟩⟩
    have hkl : k < l.length := (List.getElem?_eq_some_iff.1 hk).1
    rw [Nat.zero_add, hr0.cellAt k (by omega), List.getElem?_map, hk]; rfl
theorem own32 {B : Nat} {v' : Value} {l : List Int} {c : Int} {w : World} (h : w.ownsRow B 21 1 v' (l.length + 1) (l.map (Value.int .i32) ++ [.int .i32 c])) : w.ownsRow B 21 1 v' (l ++ [c]).length ((l ++ [c]).map (Value.int .i32)) := by
  rw [List.length_append, List.map_append]
  exact h
theorem next_piece (u : ByteArray) (k r n : Nat) (h : k < u.size) (hf : U.fst1 (u.data.toList.drop k) = (r, n)) : U.runesZ (u.data.toList.drop k) = (r : Int) :: U.runesZ (u.data.toList.drop (k + n)) := by
  have e := drop_cons u k h
  have hr := U.runesZ_cons u[k] (u.data.toList.drop (k + 1))
  rw [← e, hf, List.drop_drop] at hr
  exact hr
theorem start_some (u : ByteArray) (k l r lo hi : Nat) (h : k < u.size) (hl : U.lead u[k].toNat = some (l, r, lo, hi)) : U.fst1 (u.data.toList.drop k) = ((U.cont l r lo hi (u.data.toList.drop (k + 1))).1, (U.cont l r lo hi (u.data.toList.drop (k + 1))).2 + 1) := by
  rw [drop_cons u k h]; exact U.fst1_of hl
theorem start_none (u : ByteArray) (k : Nat) (h : k < u.size) (hl : U.lead u[k].toNat = none) : U.fst1 (u.data.toList.drop k) = (65533, 1) := by
  rw [drop_cons u k h]
  simp only [U.fst1, hl]
  rw [U.RC_eq]
theorem lead_small {b l r lo hi : Nat} (h : U.lead b = some (l, r, lo, hi)) (hb : 128 ≤ b) : 128 ≤ lo ∧ hi ≤ 191 ∧ ((l = 3 ∧ r < 32) ∨ (l = 2 ∧ r < 2048) ∨ (l = 1 ∧ r < 131072) ∨ l = 0) := by
  rcases U.lead_cases b with ⟨c, e⟩ | e | ⟨c1, c2, e⟩ | ⟨r', lo', hi', e, k1, k2, k3, k4, _⟩ | ⟨r', lo', hi', e, k1, k2, k3, k4, _⟩ <;> rw [e] at h
  · omega
  · cases h
  · simp only [Option.some.injEq, Prod.mk.injEq] at h
    omega
  · simp only [Option.some.injEq, Prod.mk.injEq] at h
    obtain ⟨rfl, rfl, rfl, rfl⟩ := h
    exact ⟨k1, k2, by omega⟩
  · simp only [Option.some.injEq, Prod.mk.injEq] at h
    obtain ⟨rfl, rfl, rfl, rfl⟩ := h
    exact ⟨k1, k2, by omega⟩
theorem add_cont (rr c : Nat) (h1 : 128 ≤ c) : ((64 * rr + (c - 128) : Nat) : Int) = 64 * (rr : Int) + ((c : Int) - 128) := by omega
set_option maxRecDepth 20000 in
set_option maxHeartbeats 8000000 in
theorem rdecode_runes (u : ByteArray) (R : List Int) (hR : U.runesZ u.data.toList = R) (hu : u.size * 4 ≤ 140737488355328) (w : World) :
    Calls Tryd.prog 69 #[.string u] w fun e w' => ∃ v, e = .returned v ∧ RunesAt w' v R ∧ Below w.heap.size w w' := by
  obtain ⟨i0, hinf, hz0, hz1, hz2⟩ := info_parts infoRune
  have HRR := Lib.hid hR
  clear hR
  go_enter Tryd.func69, Tryd.ntmps69
  go_wp2
  go_loopw [3, 4] (fun v i wr => ∃ (k : Nat) (acc : List Int), k ≤ u.size ∧ i = .int .i64 k ∧ wr.ownsRow w.heap.size 21 1 v acc.length (acc.map (Value.int .i32)) ∧ acc.length ≤ k ∧ Hid (acc ++ U.runesZ (u.data.toList.drop k) = R) ∧ Below w.heap.size w wr) (fun _ i _ => u.size - (intOf i).toNat)
  case atStart => exact ⟨0, [], by omega, rfl, World.ownsRow_nil _ _ _ _, by simp, Lib.hid HRR.out, Below.refl _ _⟩
  case round =>
    obtain ⟨k, acc, hk, rfl, hown, hal, HA, hbel⟩ := hrel
    obtain ⟨W, rfl⟩ : ∃ W : World, W = wr := ⟨_, rfl⟩
    have hsz := hbel.size
    have hml : (acc.map (Value.int .i32)).length = acc.length := List.length_map _
    by_cases hlt : k < u.size
    · have hcc := u[k].toNat_lt
      have HO := Lib.hid hown
      clear hown
      have HNP := Lib.hid (fun r n => next_piece u k r n hlt)
      by_cases hs : u[k].toNat < 128
      · have HF := Lib.hid (start_some u k 0 u[k].toNat 128 191 hlt (U.lead1 _ hs))
        have HF2 := Lib.hid (HNP.out u[k].toNat 1 (by rw [HF.out]; rfl))
        go_wp2_with (at_builtin; refine wpList_append_own _ rfl _ _ 87 rfl w.heap.size 21 i0 (.int .i32 0) 1 4 Tryd.underlying87 hinf hz0 hz1 hz2 rfl (by decide) _ _ _ rfl (HO.out.alloc _) ⟨W.heap.size, 0, none⟩ 1 1 [.int .i32 (u[k].toNat : Nat)] rfl rfl (lit32 _ _) (one32 _) (by unfold maxLen; omega) (by omega) (by simp; omega) ?_; intro v' w1 hown' hgrow _; have HO2 := Lib.hid hown'; clear hown')
        refine ⟨⟨k + 1, acc ++ [((u[k].toNat : Nat) : Int)], by omega, by go_num, own32 HO2.out, by simp; omega, Lib.hid ?_, (hbel.alloc (by omega) _).grown hgrow (by simp; omega) (fun k hk => (HO.out.lt k hk).1)⟩, by simp [intOf]; omega⟩
        rw [← HA.out, HF2.out, List.append_assoc]; rfl
      · have hge : 128 ≤ u[k].toNat := by omega
        cases hl : U.lead u[k].toNat with
        | none =>
          have HF2 := Lib.hid (HNP.out 65533 1 (start_none u k hlt hl))
          have HL := Lib.hid hl
          clear hl
          go_wp2_with fail
          refine (rbegins_none _ hge HL.out _).mono ?_
          rintro e w' ⟨rfl, rfl⟩
          go_wp2_with fail
          go_loopw [4, 5] (fun i n wr => i = .int .i64 (k + 1) ∧ n = .int .i64 (-1) ∧ wr = W) (fun _ _ _ => 0)
          case atStart => exact ⟨by first | rfl | go_num, rfl, rfl⟩
          case round =>
            obtain ⟨rfl, rfl, rfl⟩ := hrel
            obtain ⟨W, rfl⟩ : ∃ W2 : World, W2 = wr := ⟨_, rfl⟩
            go_wp2_with (at_builtin; refine wpList_append_own _ rfl _ _ 87 rfl w.heap.size 21 i0 (.int .i32 0) 1 4 Tryd.underlying87 hinf hz0 hz1 hz2 rfl (by decide) _ _ _ rfl (HO.out.alloc _) ⟨W.heap.size, 0, none⟩ 1 1 [.int .i32 65533] rfl rfl (lit32 _ _) (one32 _) (by unfold maxLen; omega) (by omega) (by simp; omega) ?_; intro v' w1 hown' hgrow _; have HO2 := Lib.hid hown'; clear hown')
            refine ⟨⟨k + 1, acc ++ [65533], by omega, by go_num, own32 HO2.out, by simp; omega, Lib.hid ?_, (hbel.alloc (by omega) _).grown hgrow (by simp; omega) (fun k hk => (HO.out.lt k hk).1)⟩, by simp [intOf]; omega⟩
            rw [← HA.out, HF2.out, List.append_assoc]; rfl
        | some q =>
          obtain ⟨l0, r0, lo0, hi0⟩ := q
          have HF := Lib.hid (start_some u k _ _ _ _ hlt hl)
          have hsm := lead_small hl hge
          have HL := Lib.hid hl
          clear hl
          obtain ⟨s1, s2, s4⟩ := hsm
          have HB := Lib.hid s4
          clear s4
          go_wp2_with fail
          refine (rbegins_some _ _ _ _ _ hge HL.out _).mono ?_
          rintro e w' ⟨rfl, rfl⟩
          go_wp2_with fail
          go_loopw [4, 5, 6, 7, 8] (fun i n r lo hi wr => ∃ (j l rr lo' hi' : Nat), k + 1 ≤ j ∧ j ≤ u.size ∧ i = .int .i64 j ∧ n = .int .i64 l ∧ r = .int .i32 rr ∧ lo = .int .u8 lo' ∧ hi = .int .u8 hi' ∧ 128 ≤ lo' ∧ hi' ≤ 191 ∧ Hid ((l = 3 ∧ rr < 32) ∨ (l = 2 ∧ rr < 2048) ∨ (l = 1 ∧ rr < 131072) ∨ l = 0) ∧ Hid (U.fst1 (u.data.toList.drop k) = ((U.cont l rr lo' hi' (u.data.toList.drop j)).1, (U.cont l rr lo' hi' (u.data.toList.drop j)).2 + (j - k))) ∧ wr = W) (fun _ n _ _ _ _ => (intOf n).toNat)
          case atStart => exact ⟨k + 1, l0, r0, lo0, hi0, by omega, by omega, by first | rfl | go_num, rfl, rfl, rfl, rfl, s1, s2, HB, Lib.hid (by rw [HF.out]; congr 1; omega), rfl⟩
          case round =>
            clear HF HB HL s1 s2
            obtain ⟨j, l, rr, lo, hi, hj1, hj2, rfl, rfl, rfl, rfl, rfl, t1, t2, HB, HF, rfl⟩ := hrel
            obtain ⟨W, rfl⟩ : ∃ W2 : World, W2 = wr := ⟨_, rfl⟩
            by_cases hl0 : l = 0
            · have HF2 := Lib.hid (HNP.out rr (j - k) (fin_all HF.out hl0))
              subst hl0
              have HF3 := Lib.hid (show U.runesZ (u.data.toList.drop k) = (rr : Int) :: U.runesZ (u.data.toList.drop j) by rw [HF2.out, show k + (j - k) = j by omega])
              go_wp2_with (at_builtin; refine wpList_append_own _ rfl _ _ 87 rfl w.heap.size 21 i0 (.int .i32 0) 1 4 Tryd.underlying87 hinf hz0 hz1 hz2 rfl (by decide) _ _ _ rfl (HO.out.alloc _) ⟨W.heap.size, 0, none⟩ 1 1 [.int .i32 (rr : Nat)] rfl rfl (lit32 _ _) (one32 _) (by unfold maxLen; omega) (by omega) (by simp; omega) ?_; intro v' w1 hown' hgrow _; have HO2 := Lib.hid hown'; clear hown')
              refine ⟨⟨j, acc ++ [(rr : Int)], by omega, by go_num, own32 HO2.out, by simp; omega, Lib.hid ?_, (hbel.alloc (by omega) _).grown hgrow (by simp; omega) (fun k hk => (HO.out.lt k hk).1)⟩, by simp [intOf]; omega⟩
              rw [← HA.out, HF3.out, List.append_assoc]; rfl
            · have hlp : 1 ≤ l := by omega
              have hl3 : l ≤ 3 := by have := HB.out; omega
              have hrr : rr < 131072 := by have := HB.out; omega
              have bp : decide ((0 : Int) < (l : Int)) = true := decide_eq_true (by omega)
              have bz : ((l : Int) != 0) = true := by rw [bne_iff_ne]; omega
              by_cases hje : j < u.size
              · have HD := Lib.hid (drop_cons u j hje)
                have hcj := u[j].toNat_lt
                by_cases hin : lo ≤ u[j].toNat ∧ u[j].toNat ≤ hi
                · have HN := Lib.hid (goes_on (l' := l - 1) HF.out (by omega) HD.out hin rfl)
                  have bl : decide ((lo : Int) ≤ (u[j].toNat : Int)) = true := decide_eq_true (by omega)
                  have bh : decide ((u[j].toNat : Int) ≤ (hi : Int)) = true := decide_eq_true (by omega)
                  obtain ⟨hin1, hin2⟩ := hin
                  go_wp2_with fail
                  refine ⟨⟨j + 1, l - 1, 64 * rr + (u[j].toNat - 128), 128, 191, by omega, by omega, by go_num, ?_, ?_, rfl, rfl, by omega, by omega, Lib.hid (by have := HB.out; omega), Lib.hid ?_, by first | trivial | rfl⟩, by simp [intOf]; omega⟩
                  · exact congrArg _ (by omega)
                  · exact congrArg _ (by rw [add_cont _ _ (by omega)])
                  · rw [HN.out, show j - k + 1 = j + 1 - k by omega]
                · have HZ := Lib.hid (HNP.out 65533 (j - k) (stop_out HF.out (by omega) HD.out hin))
                  have HF3 := Lib.hid (show U.runesZ (u.data.toList.drop k) = (65533 : Int) :: U.runesZ (u.data.toList.drop j) by rw [HZ.out, show k + (j - k) = j by omega]; rfl)
                  by_cases hlo : lo ≤ u[j].toNat
                  · have bl : decide ((lo : Int) ≤ (u[j].toNat : Int)) = true := decide_eq_true (by omega)
                    have bh : decide ((u[j].toNat : Int) ≤ (hi : Int)) = false := decide_eq_false (by omega)
                    have hhi : ¬ u[j].toNat ≤ hi := by omega
                    clear hin
                    go_wp2_with (at_builtin; refine wpList_append_own _ rfl _ _ 87 rfl w.heap.size 21 i0 (.int .i32 0) 1 4 Tryd.underlying87 hinf hz0 hz1 hz2 rfl (by decide) _ _ _ rfl (HO.out.alloc _) ⟨W.heap.size, 0, none⟩ 1 1 [.int .i32 65533] rfl rfl (lit32 _ _) (one32 _) (by unfold maxLen; omega) (by omega) (by simp; omega) ?_; intro v' w1 hown' hgrow _; have HO2 := Lib.hid hown'; clear hown')
                    refine ⟨⟨j, acc ++ [65533], by omega, by go_num, own32 HO2.out, by simp; omega, Lib.hid ?_, (hbel.alloc (by omega) _).grown hgrow (by simp; omega) (fun k hk => (HO.out.lt k hk).1)⟩, by simp [intOf]; omega⟩
                    rw [← HA.out, HF3.out, List.append_assoc]; rfl
                  · have bl : decide ((lo : Int) ≤ (u[j].toNat : Int)) = false := decide_eq_false (by omega)
                    clear hin
                    go_wp2_with (at_builtin; refine wpList_append_own _ rfl _ _ 87 rfl w.heap.size 21 i0 (.int .i32 0) 1 4 Tryd.underlying87 hinf hz0 hz1 hz2 rfl (by decide) _ _ _ rfl (HO.out.alloc _) ⟨W.heap.size, 0, none⟩ 1 1 [.int .i32 65533] rfl rfl (lit32 _ _) (one32 _) (by unfold maxLen; omega) (by omega) (by simp; omega) ?_; intro v' w1 hown' hgrow _; have HO2 := Lib.hid hown'; clear hown')
                    refine ⟨⟨j, acc ++ [65533], by omega, by go_num, own32 HO2.out, by simp; omega, Lib.hid ?_, (hbel.alloc (by omega) _).grown hgrow (by simp; omega) (fun k hk => (HO.out.lt k hk).1)⟩, by simp [intOf]; omega⟩
                    rw [← HA.out, HF3.out, List.append_assoc]; rfl
              · have HZ := Lib.hid (HNP.out 65533 (j - k) (stop_nil HF.out (by omega) (List.drop_of_length_le (by rw [len_list]; omega))))
                have HF3 := Lib.hid (show U.runesZ (u.data.toList.drop k) = (65533 : Int) :: U.runesZ (u.data.toList.drop j) by rw [HZ.out, show k + (j - k) = j by omega]; rfl)
                go_wp2_with (at_builtin; refine wpList_append_own _ rfl _ _ 87 rfl w.heap.size 21 i0 (.int .i32 0) 1 4 Tryd.underlying87 hinf hz0 hz1 hz2 rfl (by decide) _ _ _ rfl (HO.out.alloc _) ⟨W.heap.size, 0, none⟩ 1 1 [.int .i32 65533] rfl rfl (lit32 _ _) (one32 _) (by unfold maxLen; omega) (by omega) (by simp; omega) ?_; intro v' w1 hown' hgrow _; have HO2 := Lib.hid hown'; clear hown')
                refine ⟨⟨j, acc ++ [65533], by omega, by go_num, own32 HO2.out, by simp; omega, Lib.hid ?_, (hbel.alloc (by omega) _).grown hgrow (by simp; omega) (fun k hk => (HO.out.lt k hk).1)⟩, by simp [intOf]; omega⟩
                rw [← HA.out, HF3.out, List.append_assoc]; rfl
    · have HF := Lib.hid (show acc = R by
        rw [← HA.out, List.drop_of_length_le (by rw [len_list]; omega)]
        show acc = acc ++ []
        rw [List.append_nil])
      have hat := own_runes hown
      rw [HF.out] at hat
      go_wp2
      go_ret
      exact ⟨_, rfl, hat, hbel⟩
end Go.Proofs.YtnjnhgeafbofkaaDoor
