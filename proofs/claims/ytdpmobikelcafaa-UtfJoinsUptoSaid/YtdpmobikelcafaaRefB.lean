/-
  The contracts of the reference package bastionref01 for a hexadecimal digit and for the case of letters: Digit, Lower, Upper and Same answer what the plain functions of the mathematics text answer. Condition: a text of at most 2^47 bytes. Nothing that was there is changed.
-/
import Derived.Test.YtdpmobikelcafaaRefA
namespace Go.Proofs.Ytdpmobikelcafaa
open Go.RowKit M
theorem hexv_cases : ∀ k : Fin 16, ∀ b, b < 256 → (hexv b = k.1 ↔ (((⟨#[48, 49, 50, 51, 52, 53, 54, 55, 56, 57, 65, 66, 67, 68, 69, 70]⟩ : ByteArray)[k.1]'(k.2)).toNat = b ∨ (9 < k.1 ∧ ((⟨#[48, 49, 50, 51, 52, 53, 54, 55, 56, 57, 65, 66, 67, 68, 69, 70]⟩ : ByteArray)[k.1]'(k.2)).toNat + 32 = b))) := by decide +kernel
theorem tab_le : ∀ k : Fin 16, ((⟨#[48, 49, 50, 51, 52, 53, 54, 55, 56, 57, 65, 66, 67, 68, 69, 70]⟩ : ByteArray)[k.1]'(k.2)).toNat ≤ 70 := by decide +kernel
set_option maxHeartbeats 1000000 in
theorem rdigit (b : Nat) (hb : b < 256) (w : World) :
    Calls Try.prog 50 #[.int .u8 b] w fun e w' => e = .returned (.int .u8 (hexv b)) ∧ w = w' := by
  go_enter Try.func50, Try.ntmps50
  go_wp2
  go_loop [3] (fun i => ∃ k : Nat, k ≤ 16 ∧ i = .int .u8 k ∧ Hid (k ≤ hexv b)) (fun i => 16 - (intOf i).toNat)
  case atStart => exact ⟨0, by omega, rfl, Lib.hid (Nat.zero_le _)⟩
  case round =>
    obtain ⟨k, hk, rfl, HK⟩ := hrel
    by_cases hlt : k < 16
    · have hc := hexv_cases ⟨k, hlt⟩ b hb
      have hl := tab_le ⟨k, hlt⟩
      have hsz : k < (⟨#[48, 49, 50, 51, 52, 53, 54, 55, 56, 57, 65, 66, 67, 68, 69, 70]⟩ : ByteArray).size := hlt
      by_cases he : hexv b = k
      · have HE := Lib.hid he
        by_cases h1 : ((⟨#[48, 49, 50, 51, 52, 53, 54, 55, 56, 57, 65, 66, 67, 68, 69, 70]⟩ : ByteArray)[k]'(hlt)).toNat = b
        · have t1 : ((((⟨#[48, 49, 50, 51, 52, 53, 54, 55, 56, 57, 65, 66, 67, 68, 69, 70]⟩ : ByteArray)[k]'(hlt)).toNat : Int) == (b : Int)) = true := by rw [h1]; simp
          clear he hc h1
          go_wp2
          go_ret
          exact ⟨ret_int (by rw [HE.out]), rfl⟩
        · have t1 : ((((⟨#[48, 49, 50, 51, 52, 53, 54, 55, 56, 57, 65, 66, 67, 68, 69, 70]⟩ : ByteArray)[k]'(hlt)).toNat : Int) == (b : Int)) = false := by rw [beq_eq_false_iff_ne]; omega
          obtain ⟨h9, h32⟩ := (hc.1 he).resolve_left h1
          have t2 : ((((⟨#[48, 49, 50, 51, 52, 53, 54, 55, 56, 57, 65, 66, 67, 68, 69, 70]⟩ : ByteArray)[k]'(hlt)).toNat : Int) + 32 == (b : Int)) = true := by rw [beq_iff_eq]; have h32' := h32; simp only at h32'; omega
          have h9' : 9 < k := h9
          have hl' : ((⟨#[48, 49, 50, 51, 52, 53, 54, 55, 56, 57, 65, 66, 67, 68, 69, 70]⟩ : ByteArray)[k]'(hlt)).toNat ≤ 70 := hl
          clear he hc h1 h32 h9 hl
          go_wp2
          go_ret
          exact ⟨ret_int (by rw [HE.out]), rfl⟩
      · have HS := Lib.hid (show k + 1 ≤ hexv b by have := HK.out; omega)
        have hn1 : ¬ ((⟨#[48, 49, 50, 51, 52, 53, 54, 55, 56, 57, 65, 66, 67, 68, 69, 70]⟩ : ByteArray)[k]'(hlt)).toNat = b := fun h => he (hc.2 (.inl h))
        have hn2 : ¬ (9 < k ∧ ((⟨#[48, 49, 50, 51, 52, 53, 54, 55, 56, 57, 65, 66, 67, 68, 69, 70]⟩ : ByteArray)[k]'(hlt)).toNat + 32 = b) := fun h => he (hc.2 (.inr h))
        have t1 : ((((⟨#[48, 49, 50, 51, 52, 53, 54, 55, 56, 57, 65, 66, 67, 68, 69, 70]⟩ : ByteArray)[k]'(hlt)).toNat : Int) == (b : Int)) = false := by rw [beq_eq_false_iff_ne]; omega
        have hl' : ((⟨#[48, 49, 50, 51, 52, 53, 54, 55, 56, 57, 65, 66, 67, 68, 69, 70]⟩ : ByteArray)[k]'(hlt)).toNat ≤ 70 := hl
        by_cases h9 : 9 < k
        · have t2 : ((((⟨#[48, 49, 50, 51, 52, 53, 54, 55, 56, 57, 65, 66, 67, 68, 69, 70]⟩ : ByteArray)[k]'(hlt)).toNat : Int) + 32 == (b : Int)) = false := by rw [beq_eq_false_iff_ne]; omega
          clear he hc hn1 hn2 hl
          go_wp2
          go_round
          case rel => exact ⟨k + 1, by omega, by go_num, HS⟩
          case measure => simp [intOf]; omega
        · clear he hc hn1 hn2 hl
          go_wp2
          go_round
          case rel => exact ⟨k + 1, by omega, by go_num, HS⟩
          case measure => simp [intOf]; omega
    · have HR := Lib.hid (show hexv b = 16 by have := HK.out; have := hexv_le b; omega)
      go_wp2
      go_ret
      exact ⟨ret_int (by rw [HR.out]; rfl), rfl⟩
/-- the byte list as a row of the call's own -/
def Own (base : Nat) (v : Value) (l : List UInt8) (w : World) : Prop := w.ownsRow base 5 1 v l.length (Lib.byteCells l)
theorem own_back {P : Program} {w : World} {B : Nat} {v : Value} {l : List UInt8} (h : Own B v l w) (hs : P.underlying 37 = some (.slice 5)) (he : P.underlying 5 = some (.int .u8)) (hd : P.underlying 9 = some .string) :
    (convert 37 9 v).run P w = .ok (.string ⟨l.toArray⟩) w := by
  rcases h.2 with ⟨rfl, h0⟩ | ⟨g, cap, cur, rfl, hB, hg, hnc, hmx, hsz, htk⟩
  · have : l = [] := List.eq_nil_of_length_eq_zero h0
    subst this
    exact run_convert_bytes_nil w 37 5 hs he 0 0 9 hd
  · exact run_convert_bytes_back w 37 9 5 ⟨g, 0, none⟩ cap l hs he hd (fun j hj => by
      have e : (⟨g, 0, none⟩ : Addr).add j = ⟨g, j, none⟩ := by unfold Addr.add; split <;> simp_all
      rw [e, cell_of_row _ _ j _ _ _ hg]
      have h1 := congrArg (fun x => x[j]?) htk
      simp only [List.getElem?_take, Array.getElem?_toList] at h1
      rw [if_pos (by omega)] at h1
      rw [h1]
      simp [Lib.byteCells, hj])
theorem own_snoc {B : Nat} {v' : Value} {l : List UInt8} {c : UInt8} {w : World} (h : w.ownsRow B 5 1 v' (l.length + 1) (Lib.byteCells l ++ [.int .u8 c.toNat])) : Own B v' (l ++ [c]) w := by
  show w.ownsRow B 5 1 v' (l ++ [c]).length _
  rw [Lib.byteCells_append, List.length_append]
  exact h
theorem low_step (s : ByteArray) (k : Nat) (h : k < s.size) (f : UInt8 → UInt8) : (s.data.toList.take (k + 1)).map f = (s.data.toList.take k).map f ++ [f s[k]] := by
  rw [ltg s k h, List.map_append]; rfl
theorem lit_one (w : World) (c : Int) : ∀ j u, ([Value.int .u8 c])[j]? = some u → (w.alloc (.cells #[.int .u8 c] 5)).cell? ((⟨w.heap.size, 0, none⟩ : Addr).add j) = some u := by
  intro j u hj
  match j, hj with
  | 0, hj => simp at hj; subst hj; simp [Addr.add]
theorem one_cell (c : Int) : ∀ u ∈ [Value.int .u8 c], u.oneCell' = true := by intro u hu; simp at hu; subst hu; rfl
set_option maxHeartbeats 1000000 in
theorem rlower (s : ByteArray) (hs : s.size ≤ 140737488355328) (w : World) :
    Calls Try.prog 25 #[.string s] w fun e w' => e = .returned (.string ⟨(s.data.toList.map low).toArray⟩) ∧ Below w.heap.size w w' := by
  obtain ⟨i0, hi, hz0, hz1, hz2⟩ := info_parts infoByte
  go_enter Try.func25, Try.ntmps25
  go_wp2
  go_loopw [3, 4] (fun v i wr => ∃ (k : Nat), k ≤ s.size ∧ i = .int .i64 k ∧ Own w.heap.size v ((s.data.toList.take k).map low) wr ∧ Below w.heap.size w wr) (fun _ i _ => s.size - (intOf i).toNat)
  case atStart => exact ⟨0, by omega, rfl, World.ownsRow_nil _ _ _ _, Below.refl _ _⟩
  case round =>
    obtain ⟨k, hk, rfl, hown, hbel⟩ := hrel
    have hsz := hbel.size
    by_cases hlt : k < s.size
    · have hlen : ((s.data.toList.take k).map low).length = k := by simp; omega
      have HL := Lib.hid hlen
      have HS := Lib.hid (low_step s k hlt low)
      have HN := Lib.hid (low_nat s[k])
      have HO := Lib.hid hown
      have hu := s[k].toNat_lt
      clear hlen hown
      generalize (s.data.toList.take k).map low = acc at *
      by_cases h1 : 65 ≤ s[k].toNat
      · by_cases h2 : s[k].toNat ≤ 90
        · have HV := Lib.hid (show ((low s[k]).toNat : Int) = (s[k].toNat : Int) + 32 by rw [HN.out, if_pos ⟨h1, h2⟩]; omega)
          go_wp2_with (at_builtin; refine wpList_append_own _ rfl _ _ 37 rfl w.heap.size 5 i0 (.int .u8 0) 1 1 Try.underlying37 hi hz0 hz1 hz2 rfl (by decide) _ _ _ rfl (HO.out.alloc _) ⟨wr.heap.size, 0, none⟩ 1 1 [.int .u8 ((s[k].toNat : Int) + 32)] rfl rfl (lit_one _ _) (one_cell _) (by rw [HL.out]; unfold maxLen; omega) (by rw [HL.out]; omega) (by simp; omega) ?_; intro v' w1 hown' hgrow _; have HO2 := Lib.hid hown'; clear hown')
          go_roundw
          case rel =>
            refine ⟨k + 1, by omega, by go_num, ?_, (hbel.alloc (by omega) _).grown hgrow (by simp; omega) (fun k hk => (HO.out.lt k hk).1)⟩
            rw [HS.out]; exact own_snoc (by rw [HV.out]; exact HO2.out)
          case measure => simp [intOf]; omega
        · have HV := Lib.hid (show ((low s[k]).toNat : Int) = (s[k].toNat : Int) by rw [HN.out, if_neg (by omega)])
          go_wp2_with (at_builtin; refine wpList_append_own _ rfl _ _ 37 rfl w.heap.size 5 i0 (.int .u8 0) 1 1 Try.underlying37 hi hz0 hz1 hz2 rfl (by decide) _ _ _ rfl (HO.out.alloc _) ⟨wr.heap.size, 0, none⟩ 1 1 [.int .u8 (s[k].toNat : Int)] rfl rfl (lit_one _ _) (one_cell _) (by rw [HL.out]; unfold maxLen; omega) (by rw [HL.out]; omega) (by simp; omega) ?_; intro v' w1 hown' hgrow _; have HO2 := Lib.hid hown'; clear hown')
          go_roundw
          case rel =>
            refine ⟨k + 1, by omega, by go_num, ?_, (hbel.alloc (by omega) _).grown hgrow (by simp; omega) (fun k hk => (HO.out.lt k hk).1)⟩
            rw [HS.out]; exact own_snoc (by rw [HV.out]; exact HO2.out)
          case measure => simp [intOf]; omega
      · have HV := Lib.hid (show ((low s[k]).toNat : Int) = (s[k].toNat : Int) by rw [HN.out, if_neg (by omega)])
        go_wp2_with (at_builtin; refine wpList_append_own _ rfl _ _ 37 rfl w.heap.size 5 i0 (.int .u8 0) 1 1 Try.underlying37 hi hz0 hz1 hz2 rfl (by decide) _ _ _ rfl (HO.out.alloc _) ⟨wr.heap.size, 0, none⟩ 1 1 [.int .u8 (s[k].toNat : Int)] rfl rfl (lit_one _ _) (one_cell _) (by rw [HL.out]; unfold maxLen; omega) (by rw [HL.out]; omega) (by simp; omega) ?_; intro v' w1 hown' hgrow _; have HO2 := Lib.hid hown'; clear hown')
        go_roundw
        case rel =>
          refine ⟨k + 1, by omega, by go_num, ?_, (hbel.alloc (by omega) _).grown hgrow (by simp; omega) (fun k hk => (HO.out.lt k hk).1)⟩
          rw [HS.out]; exact own_snoc (by rw [HV.out]; exact HO2.out)
        case measure => simp [intOf]; omega
    · have kb := own_back (P := Try.prog) hown Try.underlying37 Try.underlying5 Try.underlying9
      have HF := Lib.hid (show (s.data.toList.take k).map low = s.data.toList.map low by rw [List.take_of_length_le (by simp; omega)])
      clear hown
      generalize (s.data.toList.take k).map low = acc at *
      go_wp2
      go_ret
      exact ⟨by rw [← HF.out]; rfl, hbel⟩
set_option maxHeartbeats 1000000 in
theorem rupper (s : ByteArray) (hs : s.size ≤ 140737488355328) (w : World) :
    Calls Try.prog 27 #[.string s] w fun e w' => e = .returned (.string ⟨(s.data.toList.map upp).toArray⟩) ∧ Below w.heap.size w w' := by
  obtain ⟨i0, hi, hz0, hz1, hz2⟩ := info_parts infoByte
  go_enter Try.func27, Try.ntmps27
  go_wp2
  go_loopw [3, 4] (fun v i wr => ∃ (k : Nat), k ≤ s.size ∧ i = .int .i64 k ∧ Own w.heap.size v ((s.data.toList.take k).map upp) wr ∧ Below w.heap.size w wr) (fun _ i _ => s.size - (intOf i).toNat)
  case atStart => exact ⟨0, by omega, rfl, World.ownsRow_nil _ _ _ _, Below.refl _ _⟩
  case round =>
    obtain ⟨k, hk, rfl, hown, hbel⟩ := hrel
    have hsz := hbel.size
    by_cases hlt : k < s.size
    · have hlen : ((s.data.toList.take k).map upp).length = k := by simp; omega
      have HL := Lib.hid hlen
      have HS := Lib.hid (low_step s k hlt upp)
      have HN := Lib.hid (upp_nat s[k])
      have HO := Lib.hid hown
      have hu := s[k].toNat_lt
      clear hlen hown
      generalize (s.data.toList.take k).map upp = acc at *
      by_cases h1 : 97 ≤ s[k].toNat
      · by_cases h2 : s[k].toNat ≤ 122
        · have HV := Lib.hid (show ((upp s[k]).toNat : Int) = (s[k].toNat : Int) - 32 by rw [HN.out, if_pos ⟨h1, h2⟩]; omega)
          go_wp2_with (at_builtin; refine wpList_append_own _ rfl _ _ 37 rfl w.heap.size 5 i0 (.int .u8 0) 1 1 Try.underlying37 hi hz0 hz1 hz2 rfl (by decide) _ _ _ rfl (HO.out.alloc _) ⟨wr.heap.size, 0, none⟩ 1 1 [.int .u8 ((s[k].toNat : Int) - 32)] rfl rfl (lit_one _ _) (one_cell _) (by rw [HL.out]; unfold maxLen; omega) (by rw [HL.out]; omega) (by simp; omega) ?_; intro v' w1 hown' hgrow _; have HO2 := Lib.hid hown'; clear hown')
          go_roundw
          case rel =>
            refine ⟨k + 1, by omega, by go_num, ?_, (hbel.alloc (by omega) _).grown hgrow (by simp; omega) (fun k hk => (HO.out.lt k hk).1)⟩
            rw [HS.out]; exact own_snoc (by rw [HV.out]; exact HO2.out)
          case measure => simp [intOf]; omega
        · have HV := Lib.hid (show ((upp s[k]).toNat : Int) = (s[k].toNat : Int) by rw [HN.out, if_neg (by omega)])
          go_wp2_with (at_builtin; refine wpList_append_own _ rfl _ _ 37 rfl w.heap.size 5 i0 (.int .u8 0) 1 1 Try.underlying37 hi hz0 hz1 hz2 rfl (by decide) _ _ _ rfl (HO.out.alloc _) ⟨wr.heap.size, 0, none⟩ 1 1 [.int .u8 (s[k].toNat : Int)] rfl rfl (lit_one _ _) (one_cell _) (by rw [HL.out]; unfold maxLen; omega) (by rw [HL.out]; omega) (by simp; omega) ?_; intro v' w1 hown' hgrow _; have HO2 := Lib.hid hown'; clear hown')
          go_roundw
          case rel =>
            refine ⟨k + 1, by omega, by go_num, ?_, (hbel.alloc (by omega) _).grown hgrow (by simp; omega) (fun k hk => (HO.out.lt k hk).1)⟩
            rw [HS.out]; exact own_snoc (by rw [HV.out]; exact HO2.out)
          case measure => simp [intOf]; omega
      · have HV := Lib.hid (show ((upp s[k]).toNat : Int) = (s[k].toNat : Int) by rw [HN.out, if_neg (by omega)])
        go_wp2_with (at_builtin; refine wpList_append_own _ rfl _ _ 37 rfl w.heap.size 5 i0 (.int .u8 0) 1 1 Try.underlying37 hi hz0 hz1 hz2 rfl (by decide) _ _ _ rfl (HO.out.alloc _) ⟨wr.heap.size, 0, none⟩ 1 1 [.int .u8 (s[k].toNat : Int)] rfl rfl (lit_one _ _) (one_cell _) (by rw [HL.out]; unfold maxLen; omega) (by rw [HL.out]; omega) (by simp; omega) ?_; intro v' w1 hown' hgrow _; have HO2 := Lib.hid hown'; clear hown')
        go_roundw
        case rel =>
          refine ⟨k + 1, by omega, by go_num, ?_, (hbel.alloc (by omega) _).grown hgrow (by simp; omega) (fun k hk => (HO.out.lt k hk).1)⟩
          rw [HS.out]; exact own_snoc (by rw [HV.out]; exact HO2.out)
        case measure => simp [intOf]; omega
    · have kb := own_back (P := Try.prog) hown Try.underlying37 Try.underlying5 Try.underlying9
      have HF := Lib.hid (show (s.data.toList.take k).map upp = s.data.toList.map upp by rw [List.take_of_length_le (by simp; omega)])
      clear hown
      generalize (s.data.toList.take k).map upp = acc at *
      go_wp2
      go_ret
      exact ⟨by rw [← HF.out]; rfl, hbel⟩
set_option maxHeartbeats 1000000 in
theorem rsame (s t : ByteArray) (hs : s.size ≤ 140737488355328) (ht : t.size ≤ 140737488355328) (w : World) :
    Calls Try.prog 29 #[.string s, .string t] w fun e w' => e = .returned (.bool (sameB s.data.toList t.data.toList)) ∧ Below w.heap.size w w' := by
  go_enter Try.func29, Try.ntmps29
  go_wp2_with fail
  refine (rlower s hs _).mono ?_
  rintro e w1 ⟨rfl, hb1⟩
  go_wp2_with fail
  refine (rlower t ht _).mono ?_
  rintro e w2 ⟨rfl, hb2⟩
  go_wp2
  go_ret
  exact ⟨rfl, hb1.trans (hb2.mono hb1.size)⟩
end Go.Proofs.Ytdpmobikelcafaa
