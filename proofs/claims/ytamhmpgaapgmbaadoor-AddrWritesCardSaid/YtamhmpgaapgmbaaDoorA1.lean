import Derived.Test.YtamhmpgaapgmbaaDoorAB
import Derived.Test.YtamhmpgaapgmbaaDoorAM
namespace Go.Proofs.YtamhmpgaapgmbaaDoor
open Go.RowKit
abbrev kv (k : Kd) : Value := .agg #[.int .u8 k.1, .int .u8 k.2]
set_option maxHeartbeats 400000 in
theorem has_any (k : Kd) (b : Nat) (w : World) :
    Calls Tryd.prog 57 #[kv k, .int .u8 b] w fun e w' => e = .returned (.bool (kHas k b)) ∧ Below w.heap.size w w' := by
  obtain ⟨lo, hi⟩ := k
  by_cases h1 : lo ≤ b
  · by_cases h2 : b ≤ hi
    · have HP := Lib.hid (show kHas (lo, hi) b = true by unfold kHas; simp [h1, h2])
      go_enter Tryd.func57, Tryd.ntmps57
      go_wp2
      go_ret
      exact ⟨ret_bool HP.out.symm, bnew _ _⟩
    · have HP := Lib.hid (show kHas (lo, hi) b = false by unfold kHas; simp [h2])
      have h3 : decide (b ≤ hi) = false := by simpa using h2
      go_enter Tryd.func57, Tryd.ntmps57
      go_wp2
      go_ret
      exact ⟨ret_bool HP.out.symm, bnew _ _⟩
  · have HP := Lib.hid (show kHas (lo, hi) b = false by unfold kHas; simp [h1])
    have h3 : decide (lo ≤ b) = false := by simpa using h1
    go_enter Tryd.func57, Tryd.ntmps57
    go_wp2
    go_ret
    exact ⟨ret_bool HP.out.symm, bnew _ _⟩
/-- kinds lie in block g from offset o on -/
def Kinds (w : World) (g : Nat) (ks : List Kd) : Prop := g < w.heap.size ∧ ∀ (i : Nat) (h : i < ks.length), w.cell? ⟨g, i * 2, none⟩ = some (.int .u8 ks[i].1) ∧ w.cell? ⟨g, i * 2 + 1, none⟩ = some (.int .u8 ks[i].2)
theorem Kinds.to {w w' : World} {g : Nat} {ks : List Kd} (h : Kinds w g ks) (hb : Below w.heap.size w w') : Kinds w' g ks :=
  ⟨Nat.lt_of_lt_of_le h.1 hb.size, fun i hi => ⟨(hb.cell (p := ⟨g, i * 2, none⟩) h.1).trans (h.2 i hi).1, (hb.cell (p := ⟨g, i * 2 + 1, none⟩) h.1).trans (h.2 i hi).2⟩⟩
set_option maxRecDepth 20000 in
set_option maxHeartbeats 1000000 in
theorem oneOf_any (b : Nat) (g : Nat) (ks : List Kd) (n cp : Nat) (hn : n = ks.length) (h8 : n ≤ 8) (w : World) (hk : Kinds w g ks) :
    Calls Tryd.prog 47 #[.int .u8 b, .slice (some ⟨g, 0, none⟩) n cp] w fun e w' => e = .returned (.bool (anyK ks b)) ∧ Below w.heap.size w w' := by
  have HN := Lib.hid hn
  have HK := Lib.hid hk
  clear hn hk
  go_enter Tryd.func47, Tryd.ntmps47
  go_wp2
  go_loopw [9] (fun i wr => ∃ k : Nat, k ≤ n ∧ i = .int .i64 k ∧ Hid (anyK (ks.take k) b = false) ∧ Below w.heap.size w wr) (fun i _ => n - (intOf i).toNat)
  case atStart => exact ⟨0, Nat.zero_le _, rfl, Lib.hid rfl, Below.refl _ _⟩
  case round =>
    obtain ⟨k, hk, rfl, hf, hb⟩ := hrel
    by_cases hlt : k < n
    · have hkl : k < ks.length := by rw [← HN.out]; exact hlt
      have hK := HK.out.to hb
      obtain ⟨c0, c1⟩ := hK.2 k hkl
      have hg := hK.1
      have HS := Lib.hid (anyK_take_succ ks k hkl b)
      obtain ⟨q, hq⟩ : ∃ q, q = ks[k] := ⟨_, rfl⟩
      have HQ := Lib.hid hq
      rw [← hq] at c0 c1
      clear hq hK
      have HB := Lib.hid hb
      clear hb
      go_wp2_with fail
      refine (has_any q b _).mono ?_
      rintro e w1 ⟨rfl, hb1⟩
      have hb2 : Below w.heap.size w w1 := HB.out.trans ((bnew wr (.cells #[.int .u8 q.1, .int .u8 q.2] 55)).mono HB.out.size |>.trans (hb1.mono (by have := HB.out.size; simp; omega)))
      have HB2 := Lib.hid hb2
      clear hb1 hb2 c0 c1
      rcases hh : kHas q b with _ | _
      · have HH := Lib.hid hh
        clear hh
        go_wp2_with fail
        go_roundw
        case rel => exact ⟨k + 1, by omega, by go_num, Lib.hid (by rw [HS.out, hf.out, ← HQ.out, HH.out]; rfl), HB2.out⟩
        case measure => simp [intOf]; omega
      · have HH := Lib.hid hh
        clear hh
        go_wp2_with fail
        go_ret
        refine ⟨ret_bool ?_, HB2.out⟩
        symm
        exact List.any_eq_true.2 ⟨ks[k], List.getElem_mem hkl, by rw [← HQ.out]; exact HH.out⟩
    · have h5 : decide (k < n) = false := by simpa using hlt
      have HB := Lib.hid hb
      have HE := Lib.hid (show anyK ks b = false by have := hf.out; rwa [List.take_of_length_le (by rw [← HN.out]; omega)] at this)
      clear hb
      go_wp2_with fail
      go_ret
      exact ⟨ret_bool HE.out.symm, HB.out⟩
theorem madeL_nil (ks : List Kd) : madeL ks [] = false := rfl
theorem takeS (s : ByteArray) (k : Nat) (h : k < s.size) : s.data.toList.take (k + 1) = s.data.toList.take k ++ [s[k]] := by
  rw [List.take_succ_eq_append_getElem (by simpa using h)]; rfl
set_option maxRecDepth 20000 in
set_option maxHeartbeats 1000000 in
theorem made_any (s : ByteArray) (hs : s.size ≤ 140737488355328) (g : Nat) (ks : List Kd) (n cp : Nat) (hn : n = ks.length) (h8 : n ≤ 8) (w : World) (hk : Kinds w g ks) :
    Calls Tryd.prog 31 #[.string s, .slice (some ⟨g, 0, none⟩) n cp] w fun e w' => e = .returned (.bool (madeL ks s.data.toList)) ∧ Below w.heap.size w w' := by
  have HN := Lib.hid hn
  have HK := Lib.hid hk
  clear hn hk
  go_enter Tryd.func31, Tryd.ntmps31
  go_wp2
  go_loopw [8] (fun i wr => ∃ k : Nat, k ≤ s.size ∧ i = .int .i64 k ∧ Hid ((s.data.toList.take k).all (fun b => anyK ks b.toNat) = true) ∧ Below w.heap.size w wr) (fun i _ => s.size - (intOf i).toNat)
  case atStart => exact ⟨0, Nat.zero_le _, rfl, Lib.hid rfl, Below.refl _ _⟩
  case round =>
    obtain ⟨k, hk, rfl, hf, hb⟩ := hrel
    by_cases hlt : k < s.size
    · have hK := HK.out.to hb
      have HS := Lib.hid (takeS s k hlt)
      have HB := Lib.hid hb
      have HK1 := Lib.hid hK
      clear hb hK
      go_wp2_with fail
      refine (oneOf_any _ g ks n cp HN.out h8 _ HK1.out).mono ?_
      rintro e w1 ⟨rfl, hb1⟩
      have HB2 := Lib.hid (HB.out.trans (hb1.mono HB.out.size))
      clear hb1
      rcases hh : anyK ks s[k].toNat with _ | _
      · have HH := Lib.hid hh
        clear hh
        go_wp2_with fail
        go_ret
        refine ⟨ret_bool ?_, HB2.out⟩
        unfold madeL
        rw [show s.data.toList.all (fun b => anyK ks b.toNat) = false from ?_]
        · rfl
        · rw [List.all_eq_false]
          exact ⟨s[k], Array.getElem_mem_toList _, by rw [HH.out]; simp⟩
      · have HH := Lib.hid hh
        clear hh
        go_wp2_with fail
        go_roundw
        case rel => exact ⟨k + 1, by omega, by go_num, Lib.hid (by rw [HS.out, List.all_append, hf.out]; simp [HH.out]), HB2.out⟩
        case measure => simp [intOf]; omega
    · have h5 : decide (k < s.size) = false := by simpa using hlt
      have HB := Lib.hid hb
      have HE := Lib.hid (show s.data.toList.all (fun b => anyK ks b.toNat) = true by have := hf.out; rwa [List.take_of_length_le (by simp; omega)] at this)
      clear hb
      go_wp2_with fail
      go_ret
      exact ⟨ret_bool (by unfold madeL; rw [HE.out, ByteArray.toList_eq]; simp), HB.out⟩
end Go.Proofs.YtamhmpgaapgmbaaDoor
