import Derived.Test.YtflddokngplgiaaDoorA3M
import Derived.Laws.BitsAllLaws
import Derived.ChangeKeysEq
namespace Go.Proofs.YtflddokngplgiaaDoor
open Go.RowKit
set_option maxHeartbeats 8000000 in
set_option maxRecDepth 100000 in
theorem isPow (w : World) : Calls Tryd.prog 72 #[.int .i64 16] w fun e w' => e = .returned (.bool true) ∧ w = w' := by
  go_enter Tryd.func72, Tryd.ntmps72
  go_wp2_with fail
  go_ret
  exact ⟨by first | rfl | (apply ret_bool; decide), rfl⟩
set_option maxHeartbeats 8000000 in
set_option maxRecDepth 100000 in
theorem trail64 (w : World) (hG : Glob w) : Calls Tryd.prog 87 #[.int .u64 16] w fun e w' => e = .returned (.int .i64 4) ∧ w = w' := by
  have c := hG.bru
  clear hG
  have h1 : bits .and .u64 16 (IntKind.u64.wrap (-16)) = 16 := by decide
  go_enter Tryd.func87, Tryd.ntmps87
  go_wp2_with fail
  go_ret
  exact ⟨rfl, rfl⟩
set_option maxHeartbeats 8000000 in
set_option maxRecDepth 100000 in
theorem trail (w : World) (hG : Glob w) : Calls Tryd.prog 73 #[.int .u64 16] w fun e w' => e = .returned (.int .i64 4) ∧ w = w' := by
  have HG := Lib.hid hG
  clear hG
  go_enter Tryd.func73, Tryd.ntmps73
  go_wp2_with (go_at_call 87; refine (trail64 _ HG.out).mono ?_; rintro e w' ⟨rfl, rfl⟩)
  go_ret
  exact ⟨rfl, rfl⟩
def hd (d : Nat) : UInt8 := if d < 10 then UInt8.ofNat (48 + d) else UInt8.ofNat (87 + d)
def hexD (n : Nat) : List UInt8 := if h : n < 16 then [hd n] else hexD (n / 16) ++ [hd (n % 16)]
termination_by n
decreasing_by omega
theorem hexD_one {n : Nat} (h : n < 16) : hexD n = [hd n] := by rw [hexD, dif_pos h]
theorem hexD_more {n : Nat} (h : ¬ n < 16) : hexD n = hexD (n / 16) ++ [hd (n % 16)] := by rw [hexD, dif_neg h]
theorem hexD_pos (n : Nat) : 1 ≤ (hexD n).length := by
  by_cases h : n < 16
  · rw [hexD_one h]; simp
  · rw [hexD_more h]; simp
theorem hexD_len (n : Nat) (h : n < 65536) : (hexD n).length ≤ 4 := by
  by_cases h1 : n < 16
  · rw [hexD_one h1]; simp
  · rw [hexD_more h1, List.length_append]
    by_cases h2 : n / 16 < 16
    · rw [hexD_one h2]; simp
    · rw [hexD_more h2, List.length_append]
      by_cases h3 : n / 16 / 16 < 16
      · rw [hexD_one h3]; simp
      · rw [hexD_more h3, List.length_append, hexD_one (by omega)]; simp
theorem and15 (u : Nat) (h : u < 65536) : bits .and .u64 (u : Int) 15 = ((u % 16 : Nat) : Int) := by
  have := u64_and_nat u 15 (by omega) (by omega)
  rw [show (15 : Int) = ((15 : Nat) : Int) from rfl, this, show (15 : Nat) = 2 ^ 4 - 1 from rfl, Nat.and_two_pow_sub_one_eq_mod]
abbrev digS : ByteArray := ⟨#[48, 49, 50, 51, 52, 53, 54, 55, 56, 57, 97, 98, 99, 100, 101, 102, 103, 104, 105, 106, 107, 108, 109, 110, 111, 112, 113, 114, 115, 116, 117, 118, 119, 120, 121, 122]⟩
theorem digS_at : ∀ d, d < 16 → digS[d]? = some (hd d) := by decide +kernel
theorem zero65 : Tryd.zeroCells99.size = 65 := by kernel_rfl
/-- the digits from place j on -/
def Tail (w : World) (g j : Nat) (l : List UInt8) : Prop := ∃ cs : Array Value, Has w g (.cells cs 99) ∧ cs.size = 65 ∧ cs.toList.drop j = Lib.byteCells l
theorem tail_set {w : World} {g j : Nat} {l : List UInt8} {c : UInt8} (h : Tail w g (j + 1) l) (hj : j < 65) : Tail (w.setCell ⟨g, j, none⟩ (.int .u8 c.toNat)) g j (c :: l) := by
  obtain ⟨cs, h1, h2, h3⟩ := h
  refine ⟨_, h1.set j _, by simpa using h2, ?_⟩
  rw [Array.toList_setIfInBounds, List.drop_eq_getElem_cons (by simp; omega), List.getElem_set_self]
  rw [List.drop_set_of_lt (by omega), h3]
  rfl
theorem len99 : Tryd.prog.arrayLen 99 = 65 := by kernel_rfl
theorem elem99 : Tryd.prog.elem 99 = 5 := by kernel_rfl
theorem und99 : Tryd.prog.underlying 99 = some (.array (Tryd.prog.arrayLen 99) (Tryd.prog.elem 99)) := by kernel_rfl
theorem slice65 (g i : Nat) (hi : i < 65) (W : World) : (Instr.sliceAt 99 (.pointer (some ⟨g, 0, none⟩)) (some (.int .i64 (i : Int))) none none).run Tryd.prog W = .ok (.slice (some ⟨g, i, none⟩) (65 - i) (65 - i)) W := by
  rw [run_sliceAt_array_l W 99 ⟨g, 0, none⟩ und99 .i64 i (by omega) (by rw [len99]; omega), len99, elem99]
  obtain ⟨i0, h1, h2, h3, h4⟩ := info_parts infoByte
  rw [run_sizeOf W h1]
  have hc : Tryd.prog.cellsOf 5 = 1 := by simp [Program.cellsOf, h1, h3]
  rw [hc]
  simp only [Result.andThen_ok, slicedAt, Nat.mul_one, Int.toNat_natCast]
  rw [if_neg (by omega)]
  simp [Addr.add]
  exact fun h => h.symm
theorem bytes_one (l : List UInt8) : ∀ u ∈ Lib.byteCells l, u.oneCell' = true := by
  intro u hu
  obtain ⟨b, _, rfl⟩ := List.mem_map.1 hu
  rfl
set_option maxHeartbeats 8000000 in
set_option maxRecDepth 100000 in
theorem fmt16 (B u : Nat) (a : Int) (ha : a = (u : Int)) (hu : u < 65536) (sv : Value) (l : List UInt8) (hl : l.length ≤ 1000) (w : World) (hown : Own B sv l w) (hBw : B ≤ w.heap.size) (hG : Glob w) :
    Calls Tryd.prog 61 #[sv, .int .u64 a, .int .i64 16, .bool false, .bool true] w fun e w' => ∃ v', e = .returned (.tuple #[v', .string ByteArray.empty]) ∧ Own B v' (l ++ hexD u) w' ∧ Below B w w' := by
  have a0 : 0 ≤ a := by omega
  have a1 : a < 65536 := by omega
  have HA := Lib.hid ha
  have HO := Lib.hid (show Own B sv l (w.alloc (.cells Tryd.zeroCells99 99)) from World.ownsRow.alloc hown _)
  have HT := Lib.hid (show Tail (w.alloc (.cells Tryd.zeroCells99 99)) w.heap.size 65 [] from ⟨_, Has.new _ _, zero65, by rw [List.drop_of_length_le (by have := zero65; simp [this])]; rfl⟩)
  have HG1 := Lib.hid (hG.to (bnew w (.cells Tryd.zeroCells99 99)))
  clear ha hG hown
  go_enter Tryd.func61, Tryd.ntmps61
  go_wp2_with (go_at_call 72; refine (isPow _).mono ?_; rintro e w' ⟨rfl, rfl⟩)
  go_wp2_with (go_at_call 73; refine (trail _ HG1.out).mono ?_; rintro e w' ⟨rfl, rfl⟩)
  go_loopw [1, 13] (fun x i wr => ∃ (u' j : Nat) (suf : List UInt8) (b : Int), x = .int .u64 b ∧ i = .int .i64 j ∧ Hid (b = (u' : Int) ∧ hexD u = hexD u' ++ suf ∧ suf.length + j = 65) ∧ 0 ≤ b ∧ b < 65536 ∧ Hid (Own B sv l wr) ∧ Hid (Tail wr w.heap.size j suf) ∧ Hid (Below w.heap.size w wr)) (fun x _ _ => (intOf x).toNat)
  case atStart => exact ⟨u, 65, [], a, rfl, rfl, Lib.hid ⟨HA.out, by simp, rfl⟩, a0, a1, HO, HT, Lib.hid (bnew _ _)⟩
  case round =>
    obtain ⟨u', j, suf, b, rfl, rfl, HR, b0, b1, HOr, HTr, HBr⟩ := hrel
    have hj : 62 ≤ j ∧ j ≤ 65 := by
      obtain ⟨h1, h2, h3⟩ := HR.out
      have e1 := hexD_len u hu
      have e2 := hexD_pos u'
      rw [h2, List.length_append] at e1
      omega
    obtain ⟨hj1, hj2⟩ := hj
    obtain ⟨cs, hH, hcs, _⟩ := HTr.out
    obtain ⟨i, rfl⟩ : ∃ i : Nat, j = i + 1 := ⟨j - 1, by omega⟩
    have cold : ∃ v, wr.cell? ⟨w.heap.size, i, none⟩ = some v := ⟨cs[i], hH.cell i (by simp)⟩
    obtain ⟨vo, cold⟩ := cold
    have fz := hH.free i
    have hgl := hH.lt
    have HH := Lib.hid hH
    clear hH
    by_cases hlt : 16 ≤ b
    · have hand := and15 u' (by have := HR.out.1; omega)
      rw [← HR.out.1] at hand
      have hds := digS_at (u' % 16) (by omega)
      obtain ⟨d, hd0⟩ : ∃ d : Nat, d = u' % 16 := ⟨_, rfl⟩
      have hd16 : d < 16 := by omega
      rw [← hd0] at hand hds
      have HD := Lib.hid hd0
      have hid : (d : Int) < 16 := by omega
      clear hd0
      go_wp2_with fail
      go_roundw
      case rel =>
        obtain ⟨r1, r2, r3⟩ := HR.out
        have hdz : d < digS.size := by show d < 36; omega
        have hdd : digS[d] = hd (u' % 16) := by
          have h1 := digS_at d hd16
          rw [getElem?_pos digS d hdz] at h1
          rw [← HD.out]; exact Option.some.inj h1
        exact ⟨u' / 16, i, digS[d] :: suf, b / 16, rfl, rfl, Lib.hid ⟨by omega, by rw [r2, hexD_more (by omega), hdd, List.append_assoc]; rfl, by simp; omega⟩, by omega, by omega, Lib.hid (own_set HOr.out HH.out (by decide) i _), Lib.hid (tail_set HTr.out (by omega)), Lib.hid (HBr.out.setCell (p := ⟨w.heap.size, i, none⟩) (Nat.le_refl _) _)⟩
      case measure => simp [intOf]; omega
    · have hu16 : u' < 16 := by have := HR.out.1; omega
      have hbz : b.toNat < digS.size := by show b.toNat < 36; omega
      have hdd : digS[b.toNat] = hd u' := by
        have e : b.toNat = u' := by have := HR.out.1; omega
        have h1 := digS_at b.toNat (by omega)
        rw [getElem?_pos digS b.toNat hbz] at h1
        rw [← e]; exact Option.some.inj h1
      have HTL := Lib.hid (show Tail (wr.setCell ⟨w.heap.size, i, none⟩ (.int .u8 (digS[b.toNat]).toNat)) w.heap.size i (hexD u) by
        obtain ⟨r1, r2, r3⟩ := HR.out
        rw [r2, hexD_one hu16, ← hdd]
        exact tail_set HTr.out (by omega))
      have HO2 := Lib.hid (show Own B sv l (wr.setCell ⟨w.heap.size, i, none⟩ (.int .u8 (digS[b.toNat]).toNat)) from own_set HOr.out HH.out (by decide) i _)
      have HB2 := Lib.hid (show Below w.heap.size w (wr.setCell ⟨w.heap.size, i, none⟩ (.int .u8 (digS[b.toNat]).toNat)) from HBr.out.setCell (p := ⟨w.heap.size, i, none⟩) (Nat.le_refl _) _)
      have hlen : 65 - i = (hexD u).length := by
        obtain ⟨r1, r2, r3⟩ := HR.out
        rw [r2, hexD_one hu16]; simp; omega
      have HLN := Lib.hid hlen
      have ks := slice65 w.heap.size i (by omega)
      obtain ⟨i0, hi, hz0, hz1, hz2⟩ := info_parts infoByte
      have HLL := Lib.hid (hexD_len u hu)
      have HC := Lib.hid (show ∀ j x, (Lib.byteCells (hexD u))[j]? = some x → (wr.setCell ⟨w.heap.size, i, none⟩ (.int .u8 (digS[b.toNat]).toNat)).cell? ((⟨w.heap.size, i, none⟩ : Addr).add j) = some x by
        intro j x hj
        obtain ⟨cs, h1, h2, h3⟩ := HTL.out
        have e : (⟨w.heap.size, i, none⟩ : Addr).add j = ⟨w.heap.size, i + j, none⟩ := by unfold Addr.add; split <;> simp_all
        rw [e]
        refine h1.cell (i + j) ?_
        rw [← h3, List.getElem?_drop] at hj
        simpa using hj)
      have HBS := Lib.hid (Nat.le_trans hBw HB2.out.size)
      clear hu16 HA hdd hlen
      go_wp2_with (at_builtin; (refine wpList_append_own _ rfl _ _ 56 rfl B 5 i0 (.int .u8 0) 1 1 Tryd.underlying56 hi hz0 hz1 hz2 rfl (by decide) _ _ _ rfl HO2.out ⟨w.heap.size, i, none⟩ (65 - i) (65 - i) (Lib.byteCells (hexD u)) rfl (by rw [HLN.out]; simp [Lib.byteCells]) HC.out (bytes_one _) (by have := HLN.out; have := HLL.out; unfold maxLen; omega) (by have := HLN.out; have := HLL.out; omega) HBS.out ?_; intro v' w1 hown' hgrow _; have HO3 := Lib.hid hown'; clear hown'; have HW := Lib.hid hgrow; clear hgrow))
      go_ret2
      refine ⟨_, rfl, ?_, (HB2.out.mono hBw).grown HW.out HBS.out (fun k hk => (HO2.out.lt k hk).1)⟩
      have := HO3.out
      rw [HLN.out] at this
      exact own_app this
end Go.Proofs.YtflddokngplgiaaDoor
namespace Go.Proofs.YtflddokngplgiaaDoor
open Go.RowKit
set_option maxHeartbeats 1000000 in
theorem app16i (B u : Nat) (a : Int) (ha : a = (u : Int)) (hu : u < 65536) (sv : Value) (l : List UInt8) (hl : l.length ≤ 1000) (w : World) (hown : Own B sv l w) (hBw : B ≤ w.heap.size) (hG : Glob w) :
    Calls Tryd.prog 48 #[sv, .int .u64 a, .int .i64 16] w fun e w' => ∃ v', e = .returned v' ∧ Own B v' (l ++ hexD u) w' ∧ Below B w w' := by
  have HC := Lib.hid (fmt16 B u a ha hu sv l hl w hown hBw hG)
  clear hown hG ha
  go_enter Tryd.func48, Tryd.ntmps48
  go_wp2_with fail
  refine HC.out.mono ?_
  rintro e w1 ⟨v', rfl, h1, h2⟩
  have HX := Lib.hid (And.intro h1 h2)
  clear h1 h2
  go_wp2_with fail
  go_ret
  exact ⟨v', rfl, HX.out⟩
set_option maxHeartbeats 1000000 in
theorem app16 (B u : Nat) (a : Int) (ha : a = (u : Int)) (hu : u < 65536) (sv : Value) (l : List UInt8) (hl : l.length ≤ 1000) (w : World) (hown : Own B sv l w) (hBw : B ≤ w.heap.size) (hG : Glob w) :
    Calls Tryd.prog 32 #[sv, .int .u64 a, .int .i64 16] w fun e w' => ∃ v', e = .returned v' ∧ Own B v' (l ++ hexD u) w' ∧ Below B w w' := by
  have HC := Lib.hid (app16i B u a ha hu sv l hl w hown hBw hG)
  clear hown hG ha
  go_enter Tryd.func32, Tryd.ntmps32
  go_wp2_with fail
  refine HC.out.mono ?_
  rintro e w1 ⟨v', rfl, h1, h2⟩
  have HX := Lib.hid (And.intro h1 h2)
  clear h1 h2
  go_wp2_with fail
  go_ret
  exact ⟨v', rfl, HX.out⟩
/-- pieces l lie where the slice v says -/
def U16At (w : World) (v : Value) (l : List Nat) : Prop :=
  ∃ (p : Option Addr) (cap : Nat), v = .slice p l.length cap ∧ ∀ (k x : Nat), l[k]? = some x → ∃ g o, p = some ⟨g, o, none⟩ ∧ g < w.heap.size ∧ w.cell? ⟨g, o + k, none⟩ = some (.int .u16 x)
theorem U16At.to {w w' : World} {v : Value} {l : List Nat} (h : U16At w v l) (hb : Below w.heap.size w w') : U16At w' v l := by
  obtain ⟨p, cap, hv, hc⟩ := h
  refine ⟨p, cap, hv, fun k x hk => ?_⟩
  obtain ⟨g, o, hp, hg, hx⟩ := hc k x hk
  exact ⟨g, o, hp, Nat.lt_of_lt_of_le hg hb.size, (hb.cell (p := ⟨g, o + k, none⟩) hg).trans hx⟩
/-- pieces as text -/
def txtP (l : List Nat) : List UInt8 := joinC 58 (l.map hexD)
theorem txtP_one {l : List Nat} {k : Nat} (h : k < l.length) (h0 : k = 0) : txtP (l.take (k + 1)) = txtP (l.take k) ++ hexD l[k] := by
  subst h0
  cases l with
  | nil => simp at h
  | cons a r => rfl
theorem txtP_more {l : List Nat} {k : Nat} (h : k < l.length) (h0 : 0 < k) : txtP (l.take (k + 1)) = (txtP (l.take k) ++ [58]) ++ hexD l[k] := by
  unfold txtP
  rw [List.take_succ_eq_append_getElem h, List.map_append, List.map_cons, List.map_nil, joinC_snoc]
  · simp
  · intro e
    have := congrArg List.length e
    simp only [List.length_map, List.length_take, List.length_nil] at this; omega
theorem txtP_len (l : List Nat) (hl : ∀ x ∈ l, x < 65536) : (txtP l).length ≤ 5 * l.length := by
  unfold txtP
  induction l with
  | nil => simp [joinC]
  | cons a r ih =>
    have h1 := hexD_len a (hl a (by simp))
    cases r with
    | nil => simp [joinC]; omega
    | cons b r' =>
      have := ih (fun x hx => hl x (by simp [hx]))
      simp only [List.map_cons, joinC, List.length_append, List.length_cons] at this ⊢
      omega
set_option maxHeartbeats 1000000 in
set_option maxRecDepth 100000 in
theorem written_nil (p : Option Addr) (cp : Nat) (w : World) :
    Calls Tryd.prog 35 #[.slice p 0 cp] w fun e w' => e = .returned (.string ⟨#[]⟩) ∧ Below w.heap.size w w' := by
  have kb := fun (W : World) => run_convert_bytes_nil (P := Tryd.prog) W 56 5 Tryd.underlying56 Tryd.underlying5 0 0 9 Tryd.underlying9
  go_enter Tryd.func35, Tryd.ntmps35
  go_wp2_with fail
  go_loopw [3, 8] (fun v i wr => v = .slice none 0 0 ∧ i = .int .i64 0 ∧ wr = w) (fun _ _ _ => 0)
  case atStart => exact ⟨rfl, rfl, rfl⟩
  case round =>
    obtain ⟨rfl, rfl, rfl⟩ := hrel
    go_wp2_with fail
    go_ret
    exact ⟨rfl, Below.refl _ _⟩
set_option maxHeartbeats 8000000 in
set_option maxRecDepth 100000 in
theorem written_some (g o cp n : Nat) (l : List Nat) (hn : n = l.length) (h8 : n ≤ 8) (h16 : ∀ x ∈ l, x < 65536) (w : World) (hG : Glob w) (hg : g < w.heap.size) (hc : ∀ (k : Nat) (h : k < l.length), w.cell? ⟨g, o + k, none⟩ = some (.int .u16 l[k])) :
    Calls Tryd.prog 35 #[.slice (some ⟨g, o, none⟩) n cp] w fun e w' => e = .returned (.string ⟨(txtP l).toArray⟩) ∧ Below w.heap.size w w' := by
  obtain ⟨i0, hi, hz0, hz1, hz2⟩ := info_parts infoByte
  have HN := Lib.hid hn
  have HG := Lib.hid hG
  have HC := Lib.hid hc
  have H16 := Lib.hid h16
  clear hn hG hc h16
  go_enter Tryd.func35, Tryd.ntmps35
  go_wp2_with fail
  go_loopw [3, 8] (fun v i wr => ∃ k : Nat, k ≤ n ∧ i = .int .i64 k ∧ Hid (Own w.heap.size v (txtP (l.take k)) wr) ∧ Hid (Glob wr) ∧ Hid (Below w.heap.size w wr)) (fun _ i _ => n - (intOf i).toNat)
  case atStart => exact ⟨0, by omega, rfl, Lib.hid (World.ownsRow_nil _ _ _ _), HG, Lib.hid (Below.refl _ _)⟩
  case round =>
    obtain ⟨k, hk, rfl, HO, HGr, HB⟩ := hrel
    by_cases hlt : k < n
    · have hkl : k < l.length := by rw [← HN.out]; exact hlt
      have c0 : wr.cell? ⟨g, o + k, none⟩ = some (.int .u16 l[k]) := (HB.out.cell (p := ⟨g, o + k, none⟩) hg).trans (HC.out k hkl)
      have hgr : g < wr.heap.size := Nat.lt_of_lt_of_le hg HB.out.size
      have hx := H16.out l[k] (List.getElem_mem hkl)
      have HL := Lib.hid (show (txtP (l.take k)).length ≤ 40 from by
        have h1 := txtP_len (l.take k) (fun x hx => H16.out x (List.mem_of_mem_take hx))
        have h2 := List.length_take_le k l
        omega)
      obtain ⟨x, hxe⟩ : ∃ x, x = l[k] := ⟨_, rfl⟩
      have HX := Lib.hid hxe
      rw [← hxe] at c0 hx
      clear hxe
      by_cases h0 : k = 0
      · have HT := Lib.hid (txtP_one hkl h0)
        have HK0 := Lib.hid h0
        have hk0 : (0 < k) = False := by simp [h0]
        have hk1 : decide (0 < k) = false := by simp [h0]
        clear h0 hk0
        go_wp2_with fail
        refine (app16 w.heap.size x _ rfl hx _ _ (by have := HL.out; omega) _ HO.out HB.out.size HGr.out).mono ?_
        rintro e w1 ⟨v1, rfl, ho, hb⟩
        have HO1 := Lib.hid ho
        have HB1 := Lib.hid (HB.out.trans hb)
        have HG1 := Lib.hid (HG.out.to HB1.out)
        clear ho hb
        go_wp2_with fail
        go_roundw
        case rel => exact ⟨k + 1, by omega, by go_num, Lib.hid (by rw [HT.out, ← HX.out]; exact HO1.out), HG1, HB1⟩
        case measure => simp [intOf]; omega
      · have hkp : 0 < k := by omega
        have HT := Lib.hid (txtP_more hkl hkp)
        clear h0
        go_wp2_with (at_builtin; refine wpList_append_own _ rfl _ _ 56 rfl w.heap.size 5 i0 (.int .u8 0) 1 1 Tryd.underlying56 hi hz0 hz1 hz2 rfl (by decide) _ _ _ rfl (HO.out.alloc _) ⟨wr.heap.size, 0, none⟩ 1 1 [.int .u8 58] rfl rfl (lit_one _ _) (one_cell _) (by have := HL.out; unfold maxLen; omega) (by have := HL.out; omega) (by have := HB.out.size; simp; omega) ?_; intro v' w1 hown' hgrow _; have HO1 := Lib.hid hown'; clear hown'; have HW := Lib.hid hgrow; clear hgrow)
        have HO1 := Lib.hid (own_snoc (c := 58) HO1.out)
        have HB1 := Lib.hid ((HB.out.alloc HB.out.size _).grown HW.out (by have := HB.out.size; simp; omega) (fun k hk => (HO.out.lt k hk).1))
        have HG1 := Lib.hid (HG.out.to HB1.out)
        refine (app16 w.heap.size x _ rfl hx _ _ (by have := HL.out; simp; omega) _ HO1.out HB1.out.size HG1.out).mono ?_
        rintro e w2 ⟨v2, rfl, ho, hb⟩
        have HO2 := Lib.hid ho
        have HB2 := Lib.hid (HB1.out.trans hb)
        have HG2 := Lib.hid (HG.out.to HB2.out)
        clear ho hb
        go_wp2_with fail
        go_roundw
        case rel => exact ⟨k + 1, by omega, by go_num, Lib.hid (by rw [HT.out, ← HX.out]; exact HO2.out), HG2, HB2⟩
        case measure => simp [intOf]; omega
    · have kb := own_back (P := Tryd.prog) HO.out Tryd.underlying56 Tryd.underlying5 Tryd.underlying9
      have HE := Lib.hid (show txtP (l.take k) = txtP l by rw [List.take_of_length_le (by rw [← HN.out]; omega)])
      have h5 : decide (k < n) = false := by simpa using hlt
      generalize txtP (l.take k) = acc at *
      go_wp2_with fail
      go_ret
      exact ⟨by rw [← HE.out]; rfl, HB.out⟩
theorem written_is (v : Value) (l : List Nat) (h8 : l.length ≤ 8) (h16 : ∀ x ∈ l, x < 65536) (w : World) (hG : Glob w) (hv : U16At w v l) :
    Calls Tryd.prog 35 #[v] w fun e w' => e = .returned (.string ⟨(txtP l).toArray⟩) ∧ Below w.heap.size w w' := by
  obtain ⟨p, cap, rfl, hc⟩ := hv
  cases hl : l with
  | nil => exact written_nil p cap w
  | cons a r =>
    rw [← hl]
    obtain ⟨g, o, rfl, hg, _⟩ := hc 0 a (by rw [hl]; rfl)
    refine written_some g o cap _ l rfl h8 h16 w hG hg fun k hk => ?_
    obtain ⟨g', o', he, _, hx⟩ := hc k l[k] (List.getElem?_eq_getElem hk)
    cases he
    exact hx
end Go.Proofs.YtflddokngplgiaaDoor
