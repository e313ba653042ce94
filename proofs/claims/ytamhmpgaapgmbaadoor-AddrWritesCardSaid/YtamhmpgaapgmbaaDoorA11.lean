import Derived.Test.YtamhmpgaapgmbaaDoorA10
import Derived.Laws.BitsAllLaws
import Derived.ChangeKeysEq
namespace Go.Proofs.YtamhmpgaapgmbaaDoor
open Go.RowKit
set_option maxHeartbeats 8000000 in
set_option maxRecDepth 100000 in
theorem isPow (w : World) : Calls Tryd.prog 72 #[.int .i64 16] w fun e w' => e = .returned (.bool true) ∧ w = w' := by
  go_enter Tryd.func72, Tryd.ntmps72
  go_wp2_with fail
  go_ret
  exact ⟨by first | rfl | (apply ret_bool; decide), rfl⟩
set_option maxHeartbeats 8000000 in
set_option maxRecDepth 100000 in
theorem trail64 (w : World) (hG : Glob w) : Calls Tryd.prog 87 #[.int .u64 16] w fun e w' => e = .returned (.int .i64 4) ∧ w = w' := by
  have c := hG.bru
  clear hG
  have h1 : bits .and .u64 16 (IntKind.u64.wrap (-16)) = 16 := by decide
  go_enter Tryd.func87, Tryd.ntmps87
  go_wp2_with fail
  go_ret
  exact ⟨rfl, rfl⟩
set_option maxHeartbeats 8000000 in
set_option maxRecDepth 100000 in
theorem trail (w : World) (hG : Glob w) : Calls Tryd.prog 73 #[.int .u64 16] w fun e w' => e = .returned (.int .i64 4) ∧ w = w' := by
  have HG := Lib.hid hG
  clear hG
  go_enter Tryd.func73, Tryd.ntmps73
  go_wp2_with (go_at_call 87; refine (trail64 _ HG.out).mono ?_; rintro e w' ⟨rfl, rfl⟩)
  go_ret
  exact ⟨rfl, rfl⟩
def hd (d : Nat) : UInt8 := if d < 10 then UInt8.ofNat (48 + d) else UInt8.ofNat (87 + d)
def hexD (n : Nat) : List UInt8 := if h : n < 16 then [hd n] else hexD (n / 16) ++ [hd (n % 16)]
termination_by n
decreasing_by omega
theorem hexD_one {n : Nat} (h : n < 16) : hexD n = [hd n] := by rw [hexD, dif_pos h]
theorem hexD_more {n : Nat} (h : ¬ n < 16) : hexD n = hexD (n / 16) ++ [hd (n % 16)] := by rw [hexD, dif_neg h]
theorem hexD_pos (n : Nat) : 1 ≤ (hexD n).length := by
  by_cases h : n < 16
  · rw [hexD_one h]; simp
  · rw [hexD_more h]; simp
theorem hexD_len (n : Nat) (h : n < 65536) : (hexD n).length ≤ 4 := by
  by_cases h1 : n < 16
  · rw [hexD_one h1]; simp
  · rw [hexD_more h1, List.length_append]
    by_cases h2 : n / 16 < 16
    · rw [hexD_one h2]; simp
    · rw [hexD_more h2, List.length_append]
      by_cases h3 : n / 16 / 16 < 16
      · rw [hexD_one h3]; simp
      · rw [hexD_more h3, List.length_append, hexD_one (by omega)]; simp
theorem and15 (u : Nat) (h : u < 65536) : bits .and .u64 (u : Int) 15 = ((u % 16 : Nat) : Int) := by
  have := u64_and_nat u 15 (by omega) (by omega)
  rw [show (15 : Int) = ((15 : Nat) : Int) from rfl, this, show (15 : Nat) = 2 ^ 4 - 1 from rfl, Nat.and_two_pow_sub_one_eq_mod]
abbrev digS : ByteArray := ⟨#[48, 49, 50, 51, 52, 53, 54, 55, 56, 57, 97, 98, 99, 100, 101, 102, 103, 104, 105, 106, 107, 108, 109, 110, 111, 112, 113, 114, 115, 116, 117, 118, 119, 120, 121, 122]⟩
theorem digS_at : ∀ d, d < 16 → digS[d]? = some (hd d) := by decide +kernel
theorem zero65 : Tryd.zeroCells99.size = 65 := by kernel_rfl
/-- the digits from place j on -/
def Tail (w : World) (g j : Nat) (l : List UInt8) : Prop := ∃ cs : Array Value, Has w g (.cells cs 99) ∧ cs.size = 65 ∧ cs.toList.drop j = Lib.byteCells l
theorem tail_set {w : World} {g j : Nat} {l : List UInt8} {c : UInt8} (h : Tail w g (j + 1) l) (hj : j < 65) : Tail (w.setCell ⟨g, j, none⟩ (.int .u8 c.toNat)) g j (c :: l) := by
  obtain ⟨cs, h1, h2, h3⟩ := h
  refine ⟨_, h1.set j _, by simpa using h2, ?_⟩
  rw [Array.toList_setIfInBounds, List.drop_eq_getElem_cons (by simp; omega), List.getElem_set_self]
  rw [List.drop_set_of_lt (by omega), h3]
  rfl
theorem len99 : Tryd.prog.arrayLen 99 = 65 := by kernel_rfl
theorem elem99 : Tryd.prog.elem 99 = 5 := by kernel_rfl
theorem und99 : Tryd.prog.underlying 99 = some (.array (Tryd.prog.arrayLen 99) (Tryd.prog.elem 99)) := by kernel_rfl
theorem slice65 (g i : Nat) (hi : i < 65) (W : World) : (Instr.sliceAt 99 (.pointer (some ⟨g, 0, none⟩)) (some (.int .i64 (i : Int))) none none).run Tryd.prog W = .ok (.slice (some ⟨g, i, none⟩) (65 - i) (65 - i)) W := by
  rw [run_sliceAt_array_l W 99 ⟨g, 0, none⟩ und99 .i64 i (by omega) (by rw [len99]; omega), len99, elem99]
  obtain ⟨i0, h1, h2, h3, h4⟩ := info_parts infoByte
  rw [run_sizeOf W h1]
  have hc : Tryd.prog.cellsOf 5 = 1 := by simp [Program.cellsOf, h1, h3]
  rw [hc]
  simp only [Result.andThen_ok, slicedAt, Nat.mul_one, Int.toNat_natCast]
  rw [if_neg (by omega)]
  simp [Addr.add]
  exact fun h => h.symm
theorem bytes_one (l : List UInt8) : ∀ u ∈ Lib.byteCells l, u.oneCell' = true := by
  intro u hu
  obtain ⟨b, _, rfl⟩ := List.mem_map.1 hu
  rfl
set_option maxHeartbeats 8000000 in
set_option maxRecDepth 100000 in
theorem fmt16 (B u : Nat) (a : Int) (ha : a = (u : Int)) (hu : u < 65536) (sv : Value) (l : List UInt8) (hl : l.length ≤ 1000) (w : World) (hown : Own B sv l w) (hBw : B ≤ w.heap.size) (hG : Glob w) :
    Calls Tryd.prog 61 #[sv, .int .u64 a, .int .i64 16, .bool false, .bool true] w fun e w' => ∃ v', e = .returned (.tuple #[v', .string ByteArray.empty]) ∧ Own B v' (l ++ hexD u) w' ∧ Below B w w' := by
  have a0 : 0 ≤ a := by omega
  have a1 : a < 65536 := by omega
  have HA := Lib.hid ha
  have HO := Lib.hid (show Own B sv l (w.alloc (.cells Tryd.zeroCells99 99)) from World.ownsRow.alloc hown _)
  have HT := Lib.hid (show Tail (w.alloc (.cells Tryd.zeroCells99 99)) w.heap.size 65 [] from ⟨_, Has.new _ _, zero65, by rw [List.drop_of_length_le (by have := zero65; simp [this])]; rfl⟩)
  have HG1 := Lib.hid (hG.to (bnew w (.cells Tryd.zeroCells99 99)))
  clear ha hG hown
  go_enter Tryd.func61, Tryd.ntmps61
  go_wp2_with (go_at_call 72; refine (isPow _).mono ?_; rintro e w' ⟨rfl, rfl⟩)
  go_wp2_with (go_at_call 73; refine (trail _ HG1.out).mono ?_; rintro e w' ⟨rfl, rfl⟩)
  go_loopw [1, 13] (fun x i wr => ∃ (u' j : Nat) (suf : List UInt8) (b : Int), x = .int .u64 b ∧ i = .int .i64 j ∧ Hid (b = (u' : Int) ∧ hexD u = hexD u' ++ suf ∧ suf.length + j = 65) ∧ 0 ≤ b ∧ b < 65536 ∧ Hid (Own B sv l wr) ∧ Hid (Tail wr w.heap.size j suf) ∧ Hid (Below w.heap.size w wr)) (fun x _ _ => (intOf x).toNat)
  case atStart => exact ⟨u, 65, [], a, rfl, rfl, Lib.hid ⟨HA.out, by simp, rfl⟩, a0, a1, HO, HT, Lib.hid (bnew _ _)⟩
  case round =>
    obtain ⟨u', j, suf, b, rfl, rfl, HR, b0, b1, HOr, HTr, HBr⟩ := hrel
    have hj : 62 ≤ j ∧ j ≤ 65 := by
      obtain ⟨h1, h2, h3⟩ := HR.out
      have e1 := hexD_len u hu
      have e2 := hexD_pos u'
      rw [h2, List.length_append] at e1
      omega
    obtain ⟨hj1, hj2⟩ := hj
    obtain ⟨cs, hH, hcs, _⟩ := HTr.out
    obtain ⟨i, rfl⟩ : ∃ i : Nat, j = i + 1 := ⟨j - 1, by omega⟩
    have cold : ∃ v, wr.cell? ⟨w.heap.size, i, none⟩ = some v := ⟨cs[i], hH.cell i (by simp)⟩
    obtain ⟨vo, cold⟩ := cold
    have fz := hH.free i
    have hgl := hH.lt
    have HH := Lib.hid hH
    clear hH
    by_cases hlt : 16 ≤ b
    · have hand := and15 u' (by have := HR.out.1; omega)
      rw [← HR.out.1] at hand
      have hds := digS_at (u' % 16) (by omega)
      obtain ⟨d, hd0⟩ : ∃ d : Nat, d = u' % 16 := ⟨_, rfl⟩
      have hd16 : d < 16 := by omega
      rw [← hd0] at hand hds
      have HD := Lib.hid hd0
      have hid : (d : Int) < 16 := by omega
      clear hd0
      go_wp2_with fail
      go_roundw
      case rel =>
        obtain ⟨r1, r2, r3⟩ := HR.out
        have hdz : d < digS.size := by show d < 36; omega
        have hdd : digS[d] = hd (u' % 16) := by
          have h1 := digS_at d hd16
          rw [getElem?_pos digS d hdz] at h1
          rw [← HD.out]; exact Option.some.inj h1
        exact ⟨u' / 16, i, digS[d] :: suf, b / 16, rfl, rfl, Lib.hid ⟨by omega, by rw [r2, hexD_more (by omega), hdd, List.append_assoc]; rfl, by simp; omega⟩, by omega, by omega, Lib.hid (own_set HOr.out HH.out (by decide) i _), Lib.hid (tail_set HTr.out (by omega)), Lib.hid (HBr.out.setCell (p := ⟨w.heap.size, i, none⟩) (Nat.le_refl _) _)⟩
      case measure => simp [intOf]; omega
    · have hu16 : u' < 16 := by have := HR.out.1; omega
      have hbz : b.toNat < digS.size := by show b.toNat < 36; omega
      have hdd : digS[b.toNat] = hd u' := by
        have e : b.toNat = u' := by have := HR.out.1; omega
        have h1 := digS_at b.toNat (by omega)
        rw [getElem?_pos digS b.toNat hbz] at h1
        rw [← e]; exact Option.some.inj h1
      have HTL := Lib.hid (show Tail (wr.setCell ⟨w.heap.size, i, none⟩ (.int .u8 (digS[b.toNat]).toNat)) w.heap.size i (hexD u) by
        obtain ⟨r1, r2, r3⟩ := HR.out
        rw [r2, hexD_one hu16, ← hdd]
        exact tail_set HTr.out (by omega))
      have HO2 := Lib.hid (show Own B sv l (wr.setCell ⟨w.heap.size, i, none⟩ (.int .u8 (digS[b.toNat]).toNat)) from own_set HOr.out HH.out (by decide) i _)
      have HB2 := Lib.hid (show Below w.heap.size w (wr.setCell ⟨w.heap.size, i, none⟩ (.int .u8 (digS[b.toNat]).toNat)) from HBr.out.setCell (p := ⟨w.heap.size, i, none⟩) (Nat.le_refl _) _)
      have hlen : 65 - i = (hexD u).length := by
        obtain ⟨r1, r2, r3⟩ := HR.out
        rw [r2, hexD_one hu16]; simp; omega
      have HLN := Lib.hid hlen
      have ks := slice65 w.heap.size i (by omega)
      obtain ⟨i0, hi, hz0, hz1, hz2⟩ := info_parts infoByte
      have HLL := Lib.hid (hexD_len u hu)
      have HC := Lib.hid (show ∀ j x, (Lib.byteCells (hexD u))[j]? = some x → (wr.setCell ⟨w.heap.size, i, none⟩ (.int .u8 (digS[b.toNat]).toNat)).cell? ((⟨w.heap.size, i, none⟩ : Addr).add j) = some x by
        intro j x hj
        obtain ⟨cs, h1, h2, h3⟩ := HTL.out
        have e : (⟨w.heap.size, i, none⟩ : Addr).add j = ⟨w.heap.size, i + j, none⟩ := by unfold Addr.add; split <;> simp_all
        rw [e]
        refine h1.cell (i + j) ?_
        rw [← h3, List.getElem?_drop] at hj
        simpa using hj)
      have HBS := Lib.hid (Nat.le_trans hBw HB2.out.size)
      clear hu16 HA hdd hlen
      go_wp2_with (at_builtin; (refine wpList_append_own _ rfl _ _ 56 rfl B 5 i0 (.int .u8 0) 1 1 Tryd.underlying56 hi hz0 hz1 hz2 rfl (by decide) _ _ _ rfl HO2.out ⟨w.heap.size, i, none⟩ (65 - i) (65 - i) (Lib.byteCells (hexD u)) rfl (by rw [HLN.out]; simp [Lib.byteCells]) HC.out (bytes_one _) (by have := HLN.out; have := HLL.out; unfold maxLen; omega) (by have := HLN.out; have := HLL.out; omega) HBS.out ?_; intro v' w1 hown' hgrow _; have HO3 := Lib.hid hown'; clear hown'; have HW := Lib.hid hgrow; clear hgrow))
      go_ret2
      refine ⟨_, rfl, ?_, (HB2.out.mono hBw).grown HW.out HBS.out (fun k hk => (HO2.out.lt k hk).1)⟩
      have := HO3.out
      rw [HLN.out] at this
      exact own_app this
end Go.Proofs.YtamhmpgaapgmbaaDoor
