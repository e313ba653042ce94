import Derived.Test.YtflddokngplgiaaDoorSBM
import Derived.Lib.Strings
import Derived.Lib.Walk
import Derived.Lib.ConvBytes
import Derived.Lib.AtoiAllMem
import Derived.Lib.AtoiErrMem
import Derived.Laws.Strings3
import Derived.Laws.Closers25
import Derived.Laws.Closers25b
import Derived.BigCall
import Derived.BigGuard
namespace Go.Proofs.YtflddokngplgiaaDoor
open Go.RowKit
abbrev kv (k : Kd) : Value := .agg #[.int .u8 k.1, .int .u8 k.2]
set_option maxHeartbeats 400000 in
theorem has_any (k : Kd) (b : Nat) (w : World) :
    Calls Tryd.prog 57 #[kv k, .int .u8 b] w fun e w' => e = .returned (.bool (kHas k b)) ∧ Below w.heap.size w w' := by
  obtain ⟨lo, hi⟩ := k
  by_cases h1 : lo ≤ b
  · by_cases h2 : b ≤ hi
    · have HP := Lib.hid (show kHas (lo, hi) b = true by unfold kHas; simp [h1, h2])
      go_enter Tryd.func57, Tryd.ntmps57
      go_wp2
      go_ret
      exact ⟨ret_bool HP.out.symm, bnew _ _⟩
    · have HP := Lib.hid (show kHas (lo, hi) b = false by unfold kHas; simp [h2])
      have h3 : decide (b ≤ hi) = false := by simpa using h2
      go_enter Tryd.func57, Tryd.ntmps57
      go_wp2
      go_ret
      exact ⟨ret_bool HP.out.symm, bnew _ _⟩
  · have HP := Lib.hid (show kHas (lo, hi) b = false by unfold kHas; simp [h1])
    have h3 : decide (lo ≤ b) = false := by simpa using h1
    go_enter Tryd.func57, Tryd.ntmps57
    go_wp2
    go_ret
    exact ⟨ret_bool HP.out.symm, bnew _ _⟩
/-- kinds lie in block g from offset o on -/
def Kinds (w : World) (g : Nat) (ks : List Kd) : Prop := g < w.heap.size ∧ ∀ (i : Nat) (h : i < ks.length), w.cell? ⟨g, i * 2, none⟩ = some (.int .u8 ks[i].1) ∧ w.cell? ⟨g, i * 2 + 1, none⟩ = some (.int .u8 ks[i].2)
theorem Kinds.to {w w' : World} {g : Nat} {ks : List Kd} (h : Kinds w g ks) (hb : Below w.heap.size w w') : Kinds w' g ks :=
  ⟨Nat.lt_of_lt_of_le h.1 hb.size, fun i hi => ⟨(hb.cell (p := ⟨g, i * 2, none⟩) h.1).trans (h.2 i hi).1, (hb.cell (p := ⟨g, i * 2 + 1, none⟩) h.1).trans (h.2 i hi).2⟩⟩
set_option maxRecDepth 20000 in
set_option maxHeartbeats 1000000 in
theorem oneOf_any (b : Nat) (g : Nat) (ks : List Kd) (n cp : Nat) (hn : n = ks.length) (h8 : n ≤ 8) (w : World) (hk : Kinds w g ks) :
    Calls Tryd.prog 47 #[.int .u8 b, .slice (some ⟨g, 0, none⟩) n cp] w fun e w' => e = .returned (.bool (anyK ks b)) ∧ Below w.heap.size w w' := by
  have HN := Lib.hid hn
  have HK := Lib.hid hk
  clear hn hk
  go_enter Tryd.func47, Tryd.ntmps47
  go_wp2
  go_loopw [9] (fun i wr => ∃ k : Nat, k ≤ n ∧ i = .int .i64 k ∧ Hid (anyK (ks.take k) b = false) ∧ Below w.heap.size w wr) (fun i _ => n - (intOf i).toNat)
  case atStart => exact ⟨0, Nat.zero_le _, rfl, Lib.hid rfl, Below.refl _ _⟩
  case round =>
    obtain ⟨k, hk, rfl, hf, hb⟩ := hrel
    by_cases hlt : k < n
    · have hkl : k < ks.length := by rw [← HN.out]; exact hlt
      have hK := HK.out.to hb
      obtain ⟨c0, c1⟩ := hK.2 k hkl
      have hg := hK.1
      have HS := Lib.hid (anyK_take_succ ks k hkl b)
      obtain ⟨q, hq⟩ : ∃ q, q = ks[k] := ⟨_, rfl⟩
      have HQ := Lib.hid hq
      rw [← hq] at c0 c1
      clear hq hK
      have HB := Lib.hid hb
      clear hb
      go_wp2_with fail
      refine (has_any q b _).mono ?_
      rintro e w1 ⟨rfl, hb1⟩
      have hb2 : Below w.heap.size w w1 := HB.out.trans ((bnew wr (.cells #[.int .u8 q.1, .int .u8 q.2] 55)).mono HB.out.size |>.trans (hb1.mono (by have := HB.out.size; simp; omega)))
      have HB2 := Lib.hid hb2
      clear hb1 hb2 c0 c1
      rcases hh : kHas q b with _ | _
      · have HH := Lib.hid hh
        clear hh
        go_wp2_with fail
        go_roundw
        case rel => exact ⟨k + 1, by omega, by go_num, Lib.hid (by rw [HS.out, hf.out, ← HQ.out, HH.out]; rfl), HB2.out⟩
        case measure => simp [intOf]; omega
      · have HH := Lib.hid hh
        clear hh
        go_wp2_with fail
        go_ret
        refine ⟨ret_bool ?_, HB2.out⟩
        symm
        exact List.any_eq_true.2 ⟨ks[k], List.getElem_mem hkl, by rw [← HQ.out]; exact HH.out⟩
    · have h5 : decide (k < n) = false := by simpa using hlt
      have HB := Lib.hid hb
      have HE := Lib.hid (show anyK ks b = false by have := hf.out; rwa [List.take_of_length_le (by rw [← HN.out]; omega)] at this)
      clear hb
      go_wp2_with fail
      go_ret
      exact ⟨ret_bool HE.out.symm, HB.out⟩
theorem madeL_nil (ks : List Kd) : madeL ks [] = false := rfl
theorem takeS (s : ByteArray) (k : Nat) (h : k < s.size) : s.data.toList.take (k + 1) = s.data.toList.take k ++ [s[k]] := by
  rw [List.take_succ_eq_append_getElem (by simpa using h)]; rfl
set_option maxRecDepth 20000 in
set_option maxHeartbeats 1000000 in
theorem made_any (s : ByteArray) (hs : s.size ≤ 140737488355328) (g : Nat) (ks : List Kd) (n cp : Nat) (hn : n = ks.length) (h8 : n ≤ 8) (w : World) (hk : Kinds w g ks) :
    Calls Tryd.prog 31 #[.string s, .slice (some ⟨g, 0, none⟩) n cp] w fun e w' => e = .returned (.bool (madeL ks s.data.toList)) ∧ Below w.heap.size w w' := by
  have HN := Lib.hid hn
  have HK := Lib.hid hk
  clear hn hk
  go_enter Tryd.func31, Tryd.ntmps31
  go_wp2
  go_loopw [8] (fun i wr => ∃ k : Nat, k ≤ s.size ∧ i = .int .i64 k ∧ Hid ((s.data.toList.take k).all (fun b => anyK ks b.toNat) = true) ∧ Below w.heap.size w wr) (fun i _ => s.size - (intOf i).toNat)
  case atStart => exact ⟨0, Nat.zero_le _, rfl, Lib.hid rfl, Below.refl _ _⟩
  case round =>
    obtain ⟨k, hk, rfl, hf, hb⟩ := hrel
    by_cases hlt : k < s.size
    · have hK := HK.out.to hb
      have HS := Lib.hid (takeS s k hlt)
      have HB := Lib.hid hb
      have HK1 := Lib.hid hK
      clear hb hK
      go_wp2_with fail
      refine (oneOf_any _ g ks n cp HN.out h8 _ HK1.out).mono ?_
      rintro e w1 ⟨rfl, hb1⟩
      have HB2 := Lib.hid (HB.out.trans (hb1.mono HB.out.size))
      clear hb1
      rcases hh : anyK ks s[k].toNat with _ | _
      · have HH := Lib.hid hh
        clear hh
        go_wp2_with fail
        go_ret
        refine ⟨ret_bool ?_, HB2.out⟩
        unfold madeL
        rw [show s.data.toList.all (fun b => anyK ks b.toNat) = false from ?_]
        · rfl
        · rw [List.all_eq_false]
          exact ⟨s[k], Array.getElem_mem_toList _, by rw [HH.out]; simp⟩
      · have HH := Lib.hid hh
        clear hh
        go_wp2_with fail
        go_roundw
        case rel => exact ⟨k + 1, by omega, by go_num, Lib.hid (by rw [HS.out, List.all_append, hf.out]; simp [HH.out]), HB2.out⟩
        case measure => simp [intOf]; omega
    · have h5 : decide (k < s.size) = false := by simpa using hlt
      have HB := Lib.hid hb
      have HE := Lib.hid (show s.data.toList.all (fun b => anyK ks b.toNat) = true by have := hf.out; rwa [List.take_of_length_le (by simp; omega)] at this)
      clear hb
      go_wp2_with fail
      go_ret
      exact ⟨ret_bool (by unfold madeL; rw [HE.out, ByteArray.toList_eq]; simp), HB.out⟩
end Go.Proofs.YtflddokngplgiaaDoor
namespace Go.Proofs.YtflddokngplgiaaDoor
open Go.RowKit
/-- the number, or the greatest one there is -/
def PuRet (n : Nat) (e : Ending) : Prop := ∃ v, e = .returned (.tuple #[.int .u64 n, v]) ∧ (v = .nilIface ∨ v = .iface 102 (.int .i64 1))
theorem or_low (c : Nat) (h : 65 ≤ c) (h' : c ≤ 70) : bits .or .u8 (c : Int) 32 = (c : Int) + 32 := by
  have : c = 65 ∨ c = 66 ∨ c = 67 ∨ c = 68 ∨ c = 69 ∨ c = 70 := by omega
  rcases this with rfl | rfl | rfl | rfl | rfl | rfl <;> decide
theorem or_same (c : Nat) (h : 97 ≤ c) (h' : c ≤ 102) : bits .or .u8 (c : Int) 32 = (c : Int) := by
  have : c = 97 ∨ c = 98 ∨ c = 99 ∨ c = 100 ∨ c = 101 ∨ c = 102 := by omega
  rcases this with rfl | rfl | rfl | rfl | rfl | rfl <;> decide
set_option maxHeartbeats 400000 in
theorem lower_great (c : Nat) (h : 65 ≤ c) (h' : c ≤ 70) (w : World) : Calls Tryd.prog 79 #[.int .u8 c] w fun e w' => e = .returned (.int .u8 ((c : Int) + 32)) ∧ w = w' := by
  have HL := Lib.hid (or_low c h h')
  go_enter Tryd.func79, Tryd.ntmps79
  go_wp2
  go_ret
  exact ⟨ret_int HL.out, rfl⟩
set_option maxHeartbeats 400000 in
theorem lower_small (c : Nat) (h : 97 ≤ c) (h' : c ≤ 102) (w : World) : Calls Tryd.prog 79 #[.int .u8 c] w fun e w' => e = .returned (.int .u8 (c : Int)) ∧ w = w' := by
  have HL := Lib.hid (or_same c h h')
  go_enter Tryd.func79, Tryd.ntmps79
  go_wp2
  go_ret
  exact ⟨ret_int HL.out, rfl⟩
theorem cap_big (n : Nat) (h : 18446744073709551616 ≤ n) : cap n = 18446744073709551615 := if_neg (by omega)
theorem bel_bytes (w : World) (t : ByteArray) : Below w.heap.size w (Lib.bytesWorld w 5 t) := Lib.bytesWorld_below w 5 t
theorem pu_ok (n m : Nat) (a : Int) (h : a = (m : Int)) (hm : cap n = m) : PuRet (cap n) (.returned (.tuple #[.int .u64 a, .nilIface])) := ⟨.nilIface, by rw [h, hm], .inl rfl⟩
theorem pu_big (n : Nat) (h : cap n = 18446744073709551615) : PuRet (cap n) (.returned (.tuple #[.int .u64 18446744073709551615, .iface 102 (.int .i64 1)])) := ⟨_, by rw [h]; rfl, .inr rfl⟩
set_option maxHeartbeats 16000000 in
set_option maxRecDepth 100000 in
theorem pu10 (t : ByteArray) (hne : t.size ≠ 0) (hmax : t.size ≤ 140737488355328) (hd : ∀ (k : Nat) (h : k < t.size), (48 ≤ t[k].toNat ∧ t[k].toNat ≤ 57)) (w : World) :
    Calls Tryd.prog 66 #[.string t, .int .i64 10, .int .i64 64] w fun e w' => PuRet (cap (numL 10 t.data.toList)) e ∧ w' = Lib.bytesWorld w 5 t := by
  have hemp : t.toList.isEmpty = false := by
    rw [← decide_eq_emptyBytes]
    exact decide_eq_false (fun h => hne (by rw [h]; rfl))
  have hcv := Lib.run_convert_string_bytes (P := Tryd.prog) w 9 56 5 t (u := .string) Tryd.underlying9 Tryd.underlying56 Tryd.underlying5
  have hB : ∀ j (h : j < t.size), (Lib.bytesWorld w 5 t).cell? ⟨w.heap.size, j, none⟩ = some (.int .u8 t[j].toNat) := fun j hj => by
    rw [Lib.bytesWorld_cell w 5 t j hj]
    rw [List.getD_eq_getElem?_getD, List.getElem?_eq_getElem (by simpa using hj)]
    rfl
  obtain ⟨W1, hW1⟩ : ∃ W1, W1 = Lib.bytesWorld w 5 t := ⟨_, rfl⟩
  rw [← hW1] at hcv hB ⊢
  clear hW1
  have HB := Lib.hid hB
  have HD := Lib.hid hd
  clear hB hd
  have hmv : IntKind.u64.wrap (IntKind.u64.wrap 18446744073709551616 - 1) = 18446744073709551615 := by
    rw [IntKind.wrap_u64, IntKind.wrap_u64]
    decide
  go_enter Tryd.func66, Tryd.ntmps66
  go_wp2
  go_loop [12, 13, 101] (fun vu vn vi => ∃ (k acc : Nat) (a : Int), vu = .bool false ∧ vn = .int .u64 a ∧ vi = .int .i64 k ∧ k ≤ t.size ∧ Hid (a = (acc : Int) ∧ acc < 18446744073709551616 ∧ numL 10 (t.data.toList.take k) = acc))
    (fun _ _ vi => t.size - (intOf vi).toNat)
  case atStart => exact ⟨0, 0, 0, rfl, rfl, rfl, by omega, rfl, by omega, rfl⟩
  case round =>
    obtain ⟨k, acc, a, rfl, rfl, rfl, hk, hh⟩ := hrel
    obtain ⟨ha, hacc, hdec⟩ := hh.out
    clear hh
    have a0 : 0 ≤ a := by omega
    have a1 : a < 18446744073709551616 := by omega
    by_cases hkn : k < t.size
    · have hc := HB.out k hkn
      have hv := HD.out k hkn
      have hS := numL_take_succ 10 t.data.toList k (by simpa using hkn)
      have hle := numL_take_le 10 (by omega) t.data.toList (k + 1)
      rw [hdec] at hS
      have hget : t.data.toList[k]'(by simpa using hkn) = t[k] := rfl
      rw [hget] at hS
      generalize t[k] = c at hc hv hS
      have hc256 : c.toNat < 256 := c.toNat_lt
      clear hget hdec
      rcases hv with ⟨hd0, hd1⟩
      · have hdv : dv c.toNat = c.toNat - 48 := by unfold dv; rw [if_pos (by omega)]
        rw [hdv] at hS
        by_cases hcut : 1844674407370955162 ≤ acc
        · have HF := Lib.hid (cap_big (numL 10 t.data.toList) (by omega))
          have icut : 1844674407370955162 ≤ a := by omega
          clear hcut hacc ha hS hle hdv
          go_wp2
          go_ret2
          exact ⟨pu_big _ HF.out, rfl⟩
        · by_cases hov : 18446744073709551616 ≤ acc * 10 + (c.toNat - 48)
          · have HF := Lib.hid (cap_big (numL 10 t.data.toList) (by omega))
            have icut : a < 1844674407370955162 := by omega
            have iov : 18446744073709551616 ≤ a * 10 + ((c.toNat : Int) - 48) := by omega
            have hwr : IntKind.u64.wrap (a * 10 + ((c.toNat : Int) - 48)) = a * 10 + ((c.toNat : Int) - 48) - 18446744073709551616 := by
              rw [IntKind.wrap_u64]
              omega
            clear hcut hacc hov ha hS hle hdv
            go_wp2
            go_ret2
            exact ⟨pu_big _ HF.out, rfl⟩
          · have HN : Hid (a * 10 + ((c.toNat : Int) - 48) = ((acc * 10 + (c.toNat - 48) : Nat) : Int) ∧ acc * 10 + (c.toNat - 48) < 18446744073709551616 ∧ numL 10 (t.data.toList.take (k + 1)) = acc * 10 + (c.toNat - 48)) := Lib.hid ⟨by omega, by omega, hS⟩
            have icut : a < 1844674407370955162 := by omega
            have iov : a * 10 + ((c.toNat : Int) - 48) < 18446744073709551616 := by omega
            clear hcut hacc hov ha hS hle hdv
            go_wp2
            refine ⟨⟨k + 1, acc * 10 + (c.toNat - 48), a * 10 + ((c.toNat : Int) - 48), rfl, (by first | rfl | (congr 1; omega)), (by first | rfl | (congr 1; omega)), by omega, HN⟩, by simp [intOf]; omega⟩
    · have hkk : k = t.size := by omega
      subst hkk
      have HF := Lib.hid (show cap (numL 10 t.data.toList) = acc by rw [List.take_of_length_le (by simp)] at hdec; rw [hdec]; exact cap_of _ hacc)
      have HA := Lib.hid ha
      clear hacc hdec ha
      go_wp2
      go_ret2
      exact ⟨pu_ok _ _ _ HA.out HF.out, rfl⟩
end Go.Proofs.YtflddokngplgiaaDoor
namespace Go.Proofs.YtflddokngplgiaaDoor
open Go.RowKit
set_option maxHeartbeats 16000000 in
set_option maxRecDepth 100000 in
theorem pu8 (t : ByteArray) (hne : t.size ≠ 0) (hmax : t.size ≤ 140737488355328) (hd : ∀ (k : Nat) (h : k < t.size), (48 ≤ t[k].toNat ∧ t[k].toNat ≤ 55)) (w : World) :
    Calls Tryd.prog 66 #[.string t, .int .i64 8, .int .i64 64] w fun e w' => PuRet (cap (numL 8 t.data.toList)) e ∧ w' = Lib.bytesWorld w 5 t := by
  have hemp : t.toList.isEmpty = false := by
    rw [← decide_eq_emptyBytes]
    exact decide_eq_false (fun h => hne (by rw [h]; rfl))
  have hcv := Lib.run_convert_string_bytes (P := Tryd.prog) w 9 56 5 t (u := .string) Tryd.underlying9 Tryd.underlying56 Tryd.underlying5
  have hB : ∀ j (h : j < t.size), (Lib.bytesWorld w 5 t).cell? ⟨w.heap.size, j, none⟩ = some (.int .u8 t[j].toNat) := fun j hj => by
    rw [Lib.bytesWorld_cell w 5 t j hj]
    rw [List.getD_eq_getElem?_getD, List.getElem?_eq_getElem (by simpa using hj)]
    rfl
  obtain ⟨W1, hW1⟩ : ∃ W1, W1 = Lib.bytesWorld w 5 t := ⟨_, rfl⟩
  rw [← hW1] at hcv hB ⊢
  clear hW1
  have HB := Lib.hid hB
  have HD := Lib.hid hd
  clear hB hd
  have hmv : IntKind.u64.wrap (IntKind.u64.wrap 18446744073709551616 - 1) = 18446744073709551615 := by
    rw [IntKind.wrap_u64, IntKind.wrap_u64]
    decide
  go_enter Tryd.func66, Tryd.ntmps66
  go_wp2
  go_loop [12, 13, 101] (fun vu vn vi => ∃ (k acc : Nat) (a : Int), vu = .bool false ∧ vn = .int .u64 a ∧ vi = .int .i64 k ∧ k ≤ t.size ∧ Hid (a = (acc : Int) ∧ acc < 18446744073709551616 ∧ numL 8 (t.data.toList.take k) = acc))
    (fun _ _ vi => t.size - (intOf vi).toNat)
  case atStart => exact ⟨0, 0, 0, rfl, rfl, rfl, by omega, rfl, by omega, rfl⟩
  case round =>
    obtain ⟨k, acc, a, rfl, rfl, rfl, hk, hh⟩ := hrel
    obtain ⟨ha, hacc, hdec⟩ := hh.out
    clear hh
    have a0 : 0 ≤ a := by omega
    have a1 : a < 18446744073709551616 := by omega
    by_cases hkn : k < t.size
    · have hc := HB.out k hkn
      have hv := HD.out k hkn
      have hS := numL_take_succ 8 t.data.toList k (by simpa using hkn)
      have hle := numL_take_le 8 (by omega) t.data.toList (k + 1)
      rw [hdec] at hS
      have hget : t.data.toList[k]'(by simpa using hkn) = t[k] := rfl
      rw [hget] at hS
      generalize t[k] = c at hc hv hS
      have hc256 : c.toNat < 256 := c.toNat_lt
      clear hget hdec
      rcases hv with ⟨hd0, hd1⟩
      · have hdv : dv c.toNat = c.toNat - 48 := by unfold dv; rw [if_pos (by omega)]
        rw [hdv] at hS
        by_cases hcut : 2305843009213693952 ≤ acc
        · have HF := Lib.hid (cap_big (numL 8 t.data.toList) (by omega))
          have icut : 2305843009213693952 ≤ a := by omega
          clear hcut hacc ha hS hle hdv
          go_wp2
          go_ret2
          exact ⟨pu_big _ HF.out, rfl⟩
        · by_cases hov : 18446744073709551616 ≤ acc * 8 + (c.toNat - 48)
          · exfalso; omega
          · have HN : Hid (a * 8 + ((c.toNat : Int) - 48) = ((acc * 8 + (c.toNat - 48) : Nat) : Int) ∧ acc * 8 + (c.toNat - 48) < 18446744073709551616 ∧ numL 8 (t.data.toList.take (k + 1)) = acc * 8 + (c.toNat - 48)) := Lib.hid ⟨by omega, by omega, hS⟩
            have icut : a < 2305843009213693952 := by omega
            have iov : a * 8 + ((c.toNat : Int) - 48) < 18446744073709551616 := by omega
            clear hcut hacc hov ha hS hle hdv
            go_wp2
            refine ⟨⟨k + 1, acc * 8 + (c.toNat - 48), a * 8 + ((c.toNat : Int) - 48), rfl, (by first | rfl | (congr 1; omega)), (by first | rfl | (congr 1; omega)), by omega, HN⟩, by simp [intOf]; omega⟩
    · have hkk : k = t.size := by omega
      subst hkk
      have HF := Lib.hid (show cap (numL 8 t.data.toList) = acc by rw [List.take_of_length_le (by simp)] at hdec; rw [hdec]; exact cap_of _ hacc)
      have HA := Lib.hid ha
      clear hacc hdec ha
      go_wp2
      go_ret2
      exact ⟨pu_ok _ _ _ HA.out HF.out, rfl⟩
end Go.Proofs.YtflddokngplgiaaDoor
