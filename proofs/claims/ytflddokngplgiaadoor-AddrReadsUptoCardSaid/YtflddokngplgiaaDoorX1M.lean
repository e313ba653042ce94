import Derived.Test.YtflddokngplgiaaDoorA24M
import Derived.Test.YtflddokngplgiaaDoorM3M
namespace Go.Proofs.YtflddokngplgiaaDoor
open Go.RowKit
def szOf : Value → Nat
  | .string x => x.size
  | _ => 0
theorem tb_at : ∀ d, d < 16 → (⟨#[48, 49, 50, 51, 52, 53, 54, 55, 56, 57, 97, 98, 99, 100, 101, 102]⟩ : ByteArray).extract d (d + 1) = ⟨#[hd d]⟩ := by decide +kernel
theorem hd_dec : ∀ d, d < 10 → UInt8.ofNat (48 + d) = hd d := by decide
theorem u64w (n : Nat) (h : n < 1000000) : IntKind.u64.wrap (n : Int) = (n : Int) := by
  simp [IntKind.wrap, show IntKind.u64.signed = false from rfl, show IntKind.u64.bits = 64 from rfl]; omega
/-- nothing for nought -/
def dig0 (D : Nat → List UInt8) (n : Nat) : List UInt8 := if n = 0 then [] else D n
theorem dec_step (n : Nat) : Lib.decDigits n = dig0 Lib.decDigits (n / 10) ++ [hd (n % 10)] := by
  rw [Lib.decDigits]
  unfold dig0
  by_cases h : n < 10
  · rw [dif_pos h, if_pos (by omega), hd_dec n h, show n % 10 = n by omega]; rfl
  · rw [dif_neg h, if_neg (by omega), hd_dec _ (by omega)]
theorem hex_step (n : Nat) : hexD n = dig0 hexD (n / 16) ++ [hd (n % 16)] := by
  unfold dig0
  by_cases h : n < 16
  · rw [hexD_one h, if_pos (by omega), show n % 16 = n by omega]; rfl
  · rw [hexD_more h, if_neg (by omega)]
def Inv (D : Nat → List UInt8) (n n' : Nat) (l : List UInt8) : Prop := (l = [] ∧ n' = n) ∨ (l ≠ [] ∧ D n = dig0 D n' ++ l)
theorem inv_step {D : Nat → List UInt8} {b n n' : Nat} {l : List UInt8} (hs : ∀ m, D m = dig0 D (m / b) ++ [hd (m % b)]) (h : Inv D n n' l) (hc : l = [] ∨ 0 < n') : Inv D n (n' / b) (hd (n' % b) :: l) := by
  refine .inr ⟨by simp, ?_⟩
  rcases h with ⟨rfl, rfl⟩ | ⟨h1, h2⟩
  · exact hs n'
  · rcases hc with rfl | hc
    · exact absurd rfl h1
    · rw [h2, show dig0 D n' = D n' from if_neg (by omega), hs n']; simp
theorem inv_len {D : Nat → List UInt8} {n n' : Nat} {l : List UInt8} (h : Inv D n n' l) (hl : (D n).length ≤ 8) : l.length ≤ 8 := by
  rcases h with ⟨rfl, _⟩ | ⟨_, h2⟩
  · simp
  · rw [h2, List.length_append] at hl; omega
theorem inv_end {D : Nat → List UInt8} {n : Nat} {l : List UInt8} (h : Inv D n 0 l) (hl : l ≠ []) : D n = l := by
  rcases h with ⟨h1, _⟩ | ⟨_, h2⟩
  · exact absurd h1 hl
  · rw [h2]; rfl
set_option maxHeartbeats 1000000 in
set_option maxRecDepth 100000 in
theorem text10_is (n : Nat) (hn : n < 256) (w : World) :
    Calls Tryd.prog 33 #[.int .u64 n, .int .u64 10] w fun e w' => e = .returned (.string ⟨(Lib.decDigits n).toArray⟩) ∧ Below w.heap.size w w' := by
  have hm0 : Tryd.prog.follows .mixedOrders = true := by kernel_rfl
  have HDL := Lib.hid (show (Lib.decDigits n).length ≤ 8 by have := dec_len n hn; omega)
  go_enter Tryd.func33, Tryd.ntmps33
  go_wp2_with fail
  go_loopw [0, 5] (fun v u wr => ∃ (n' : Nat) (x : ByteArray), n' < 65536 ∧ v = .int .u64 n' ∧ u = .string x ∧ Hid (Inv Lib.decDigits n n' x.data.toList) ∧ Hid (Below w.heap.size w wr)) (fun _ u _ => 64 - szOf u)
  case atStart => exact ⟨n, _, by omega, rfl, rfl, Lib.hid (.inl ⟨rfl, rfl⟩), Lib.hid (Below.refl _ _)⟩
  case round =>
    obtain ⟨n', x, hn', rfl, rfl, HI, HW⟩ := hrel
    have hx : x.size ≤ 8 := by have := inv_len HI.out HDL.out; rwa [len_list] at this
    obtain ⟨d, hd'⟩ : ∃ d, n' % 10 = d := ⟨_, rfl⟩
    obtain ⟨q, hq⟩ : ∃ q, n' / 10 = q := ⟨_, rfl⟩
    obtain ⟨f, hf⟩ : ∃ f, d + 1 = f := ⟨_, rfl⟩
    have HS := Lib.hid (fun hc : x.data.toList = [] ∨ 0 < n' => (show Inv Lib.decDigits n q (hd d :: x.data.toList) by rw [← hd', ← hq]; exact inv_step dec_step HI.out hc))
    have hq6 : q < 65536 := by omega
    have k1 : (n' : Int).tmod 10 = (d : Int) := by rw [Int.tmod_eq_emod_of_nonneg (by omega)]; omega
    have k2 : (n' : Int) / 10 = (q : Int) := by omega
    have k3 : IntKind.u64.wrap (q : Int) = (q : Int) := u64w q (by omega)
    have k4 : IntKind.u64.wrap ((d : Int) + 1) = (f : Int) := by rw [← hf]; exact u64w (d + 1) (by omega)
    have f1 : (f : Int) ≤ 16 := by omega
    have f2 : d ≤ f := by omega
    obtain ⟨C, hC⟩ : ∃ C : ByteArray, (⟨#[hd d]⟩ : ByteArray) = C := ⟨_, rfl⟩
    have k5 : (⟨#[48, 49, 50, 51, 52, 53, 54, 55, 56, 57, 97, 98, 99, 100, 101, 102]⟩ : ByteArray).extract d f = C := by rw [← hf, tb_at d (by omega), hC]
    have z1 : C.size = 1 := by rw [← hC]; rfl
    have HC := Lib.hid (show (C ++ x).data.toList = hd d :: x.data.toList by rw [← hC, ByteArray.data_append]; simp)
    have HCS := Lib.hid (show (C ++ x).size = x.size + 1 by rw [ByteArray.size_append, z1]; omega)
    have z2 : ¬ 9223372036854775807 < 1 + x.size := by omega
    clear hd' hq hf hC
    by_cases h0 : x.toList = []
    · have h1 : (x.toList == []) = true := by simpa using h0
      have HJ := Lib.hid (HS.out (.inl (by rw [← ByteArray.toList_eq]; exact h0)))
      go_wp2_with fail
      refine wp_region_quiet_later hm0 (by kernel_rfl) ?_
      quiet_step (fail)
      quiet_step (fail)
      quiet_step (fail)
      quiet_step (fail)
      quiet_step (fail)
      quiet_step (fail)
      quiet_step (fail)
      quiet_step (fail)
      quiet_step (fail)
      quiet_step (fail)
      quiet_step (fail)
      refine wpQuiet_nil ?_
      rintro _ ⟨p, rfl⟩
      have HB := Lib.hid (bel2 HW.out p.h)
      go_wp2_with fail
      go_roundw
      case rel => exact ⟨q, C ++ x, hq6, rfl, rfl, Lib.hid (by rw [HC.out]; exact HJ.out), HB⟩
      case measure => simp only [szOf]; have := HCS.out; simp; omega
    · have h1 : (x.toList == []) = false := by simpa using h0
      by_cases h2 : 0 < n'
      · have HJ := Lib.hid (HS.out (.inr h2))
        have h3 : decide (0 < n') = true := by simpa using h2
        go_wp2_with fail
        refine wp_region_quiet_later hm0 (by kernel_rfl) ?_
        quiet_step (fail)
        quiet_step (fail)
        quiet_step (fail)
        quiet_step (fail)
        quiet_step (fail)
        quiet_step (fail)
        quiet_step (fail)
        quiet_step (fail)
        quiet_step (fail)
        quiet_step (fail)
        quiet_step (fail)
        refine wpQuiet_nil ?_
        rintro _ ⟨p, rfl⟩
        have HB := Lib.hid (bel2 HW.out p.h)
        go_wp2_with fail
        go_roundw
        case rel => exact ⟨q, C ++ x, hq6, rfl, rfl, Lib.hid (by rw [HC.out]; exact HJ.out), HB⟩
        case measure => simp only [szOf]; have := HCS.out; simp; omega
      · obtain rfl : n' = 0 := by omega
        have HE := Lib.hid (inv_end HI.out (by rw [← ByteArray.toList_eq]; exact h0))
        go_wp2_with fail
        go_ret
        exact ⟨by rw [HE.out]; rfl, HW.out⟩
set_option maxHeartbeats 1000000 in
set_option maxRecDepth 100000 in
theorem text16_is (n : Nat) (hn : n < 65536) (w : World) :
    Calls Tryd.prog 33 #[.int .u64 n, .int .u64 16] w fun e w' => e = .returned (.string ⟨(hexD n).toArray⟩) ∧ Below w.heap.size w w' := by
  have hm0 : Tryd.prog.follows .mixedOrders = true := by kernel_rfl
  have HDL := Lib.hid (show (hexD n).length ≤ 8 by have := hexD_len n hn; omega)
  go_enter Tryd.func33, Tryd.ntmps33
  go_wp2_with fail
  go_loopw [0, 5] (fun v u wr => ∃ (n' : Nat) (x : ByteArray), n' < 65536 ∧ v = .int .u64 n' ∧ u = .string x ∧ Hid (Inv hexD n n' x.data.toList) ∧ Hid (Below w.heap.size w wr)) (fun _ u _ => 64 - szOf u)
  case atStart => exact ⟨n, _, by omega, rfl, rfl, Lib.hid (.inl ⟨rfl, rfl⟩), Lib.hid (Below.refl _ _)⟩
  case round =>
    obtain ⟨n', x, hn', rfl, rfl, HI, HW⟩ := hrel
    have hx : x.size ≤ 8 := by have := inv_len HI.out HDL.out; rwa [len_list] at this
    obtain ⟨d, hd'⟩ : ∃ d, n' % 16 = d := ⟨_, rfl⟩
    obtain ⟨q, hq⟩ : ∃ q, n' / 16 = q := ⟨_, rfl⟩
    obtain ⟨f, hf⟩ : ∃ f, d + 1 = f := ⟨_, rfl⟩
    have HS := Lib.hid (fun hc : x.data.toList = [] ∨ 0 < n' => (show Inv hexD n q (hd d :: x.data.toList) by rw [← hd', ← hq]; exact inv_step hex_step HI.out hc))
    have hq6 : q < 65536 := by omega
    have k1 : (n' : Int).tmod 16 = (d : Int) := by rw [Int.tmod_eq_emod_of_nonneg (by omega)]; omega
    have k2 : (n' : Int) / 16 = (q : Int) := by omega
    have k3 : IntKind.u64.wrap (q : Int) = (q : Int) := u64w q (by omega)
    have k4 : IntKind.u64.wrap ((d : Int) + 1) = (f : Int) := by rw [← hf]; exact u64w (d + 1) (by omega)
    have f1 : (f : Int) ≤ 16 := by omega
    have f2 : d ≤ f := by omega
    obtain ⟨C, hC⟩ : ∃ C : ByteArray, (⟨#[hd d]⟩ : ByteArray) = C := ⟨_, rfl⟩
    have k5 : (⟨#[48, 49, 50, 51, 52, 53, 54, 55, 56, 57, 97, 98, 99, 100, 101, 102]⟩ : ByteArray).extract d f = C := by rw [← hf, tb_at d (by omega), hC]
    have z1 : C.size = 1 := by rw [← hC]; rfl
    have HC := Lib.hid (show (C ++ x).data.toList = hd d :: x.data.toList by rw [← hC, ByteArray.data_append]; simp)
    have HCS := Lib.hid (show (C ++ x).size = x.size + 1 by rw [ByteArray.size_append, z1]; omega)
    have z2 : ¬ 9223372036854775807 < 1 + x.size := by omega
    clear hd' hq hf hC
    by_cases h0 : x.toList = []
    · have h1 : (x.toList == []) = true := by simpa using h0
      have HJ := Lib.hid (HS.out (.inl (by rw [← ByteArray.toList_eq]; exact h0)))
      go_wp2_with fail
      refine wp_region_quiet_later hm0 (by kernel_rfl) ?_
      quiet_step (fail)
      quiet_step (fail)
      quiet_step (fail)
      quiet_step (fail)
      quiet_step (fail)
      quiet_step (fail)
      quiet_step (fail)
      quiet_step (fail)
      quiet_step (fail)
      quiet_step (fail)
      quiet_step (fail)
      refine wpQuiet_nil ?_
      rintro _ ⟨p, rfl⟩
      have HB := Lib.hid (bel2 HW.out p.h)
      go_wp2_with fail
      go_roundw
      case rel => exact ⟨q, C ++ x, hq6, rfl, rfl, Lib.hid (by rw [HC.out]; exact HJ.out), HB⟩
      case measure => simp only [szOf]; have := HCS.out; simp; omega
    · have h1 : (x.toList == []) = false := by simpa using h0
      by_cases h2 : 0 < n'
      · have HJ := Lib.hid (HS.out (.inr h2))
        have h3 : decide (0 < n') = true := by simpa using h2
        go_wp2_with fail
        refine wp_region_quiet_later hm0 (by kernel_rfl) ?_
        quiet_step (fail)
        quiet_step (fail)
        quiet_step (fail)
        quiet_step (fail)
        quiet_step (fail)
        quiet_step (fail)
        quiet_step (fail)
        quiet_step (fail)
        quiet_step (fail)
        quiet_step (fail)
        quiet_step (fail)
        refine wpQuiet_nil ?_
        rintro _ ⟨p, rfl⟩
        have HB := Lib.hid (bel2 HW.out p.h)
        go_wp2_with fail
        go_roundw
        case rel => exact ⟨q, C ++ x, hq6, rfl, rfl, Lib.hid (by rw [HC.out]; exact HJ.out), HB⟩
        case measure => simp only [szOf]; have := HCS.out; simp; omega
      · obtain rfl : n' = 0 := by omega
        have HE := Lib.hid (inv_end HI.out (by rw [← ByteArray.toList_eq]; exact h0))
        go_wp2_with fail
        go_ret
        exact ⟨by rw [HE.out]; rfl, HW.out⟩
end Go.Proofs.YtflddokngplgiaaDoor
namespace Go.Proofs.YtflddokngplgiaaDoor
open Go.RowKit
theorem u64v (n : Nat) (h : n < 4294967296) : IntKind.u64.wrap (n : Int) = (n : Int) := by
  simp [IntKind.wrap, show IntKind.u64.signed = false from rfl, show IntKind.u64.bits = 64 from rfl]; omega
set_option maxHeartbeats 1000000 in
set_option maxRecDepth 100000 in
theorem refV4_is (n : Nat) (hn : n < 4294967296) (w : World) :
    Calls Tryd.prog 18 #[.int .u32 n] w fun e w' => e = .returned (.string ⟨(tv4 n).toArray⟩) ∧ Below w.heap.size w w' := by
  obtain ⟨N, hN⟩ : ∃ N : Int, (n : Int) = N := ⟨_, rfl⟩
  obtain ⟨a, ha⟩ : ∃ a, n / 16777216 = a := ⟨_, rfl⟩
  obtain ⟨b', hb'⟩ : ∃ a, n / 65536 = a := ⟨_, rfl⟩
  obtain ⟨b, hb⟩ : ∃ a, b' % 256 = a := ⟨_, rfl⟩
  obtain ⟨c', hc'⟩ : ∃ a, n / 256 = a := ⟨_, rfl⟩
  obtain ⟨c, hc⟩ : ∃ a, c' % 256 = a := ⟨_, rfl⟩
  obtain ⟨d, hd'⟩ : ∃ a, n % 256 = a := ⟨_, rfl⟩
  have g0 : 0 ≤ N := by omega
  have k1 : N.tdiv 16777216 = (a : Int) := by rw [Int.tdiv_eq_ediv_of_nonneg g0]; omega
  have k2 : N.tdiv 65536 = (b' : Int) := by rw [Int.tdiv_eq_ediv_of_nonneg g0]; omega
  have k3 : (b' : Int).tmod 256 = (b : Int) := by rw [Int.tmod_eq_emod_of_nonneg (by omega)]; omega
  have k4 : N.tdiv 256 = (c' : Int) := by rw [Int.tdiv_eq_ediv_of_nonneg g0]; omega
  have k5 : (c' : Int).tmod 256 = (c : Int) := by rw [Int.tmod_eq_emod_of_nonneg (by omega)]; omega
  have k6 : N.tmod 256 = (d : Int) := by rw [Int.tmod_eq_emod_of_nonneg (by omega)]; omega
  have k7 : IntKind.u64.wrap N = N := by rw [← hN]; simp [IntKind.wrap, show IntKind.u64.signed = false from rfl, show IntKind.u64.bits = 64 from rfl]; omega
  have l1 : IntKind.u64.wrap (a : Int) = (a : Int) := u64v a (by omega)
  have l2 : IntKind.u64.wrap (b' : Int) = (b' : Int) := u64v b' (by omega)
  have l3 : IntKind.u64.wrap (c' : Int) = (c' : Int) := u64v c' (by omega)
  have l4 : IntKind.u64.wrap (b : Int) = (b : Int) := u64v b (by omega)
  have l5 : IntKind.u64.wrap (c : Int) = (c : Int) := u64v c (by omega)
  have l6 : IntKind.u64.wrap (d : Int) = (d : Int) := u64v d (by omega)
  obtain ⟨sa, hsa⟩ : ∃ t : ByteArray, (⟨(Lib.decDigits a).toArray⟩ : ByteArray) = t := ⟨_, rfl⟩
  obtain ⟨sb, hsb⟩ : ∃ t : ByteArray, (⟨(Lib.decDigits b).toArray⟩ : ByteArray) = t := ⟨_, rfl⟩
  obtain ⟨sc, hsc⟩ : ∃ t : ByteArray, (⟨(Lib.decDigits c).toArray⟩ : ByteArray) = t := ⟨_, rfl⟩
  obtain ⟨sd, hsd⟩ : ∃ t : ByteArray, (⟨(Lib.decDigits d).toArray⟩ : ByteArray) = t := ⟨_, rfl⟩
  have HCA := Lib.hid (show ∀ W, Calls Tryd.prog 33 #[.int .u64 a, .int .u64 10] W fun e w' => e = .returned (.string sa) ∧ Below W.heap.size W w' from fun W => by rw [← hsa]; exact text10_is a (by omega) W)
  have HCB := Lib.hid (show ∀ W, Calls Tryd.prog 33 #[.int .u64 b, .int .u64 10] W fun e w' => e = .returned (.string sb) ∧ Below W.heap.size W w' from fun W => by rw [← hsb]; exact text10_is b (by omega) W)
  have HCC := Lib.hid (show ∀ W, Calls Tryd.prog 33 #[.int .u64 c, .int .u64 10] W fun e w' => e = .returned (.string sc) ∧ Below W.heap.size W w' from fun W => by rw [← hsc]; exact text10_is c (by omega) W)
  have HCD := Lib.hid (show ∀ W, Calls Tryd.prog 33 #[.int .u64 d, .int .u64 10] W fun e w' => e = .returned (.string sd) ∧ Below W.heap.size W w' from fun W => by rw [← hsd]; exact text10_is d (by omega) W)
  have z1 : sa.size ≤ 3 := by rw [← hsa, ba_size]; exact dec_len _ (by omega)
  have z2 : sb.size ≤ 3 := by rw [← hsb, ba_size]; exact dec_len _ (by omega)
  have z3 : sc.size ≤ 3 := by rw [← hsc, ba_size]; exact dec_len _ (by omega)
  have z4 : sd.size ≤ 3 := by rw [← hsd, ba_size]; exact dec_len _ (by omega)
  have y1 : ¬ 9223372036854775807 < sa.size + 1 := by omega
  have y2 : ¬ 9223372036854775807 < sa.size + 1 + sb.size := by omega
  have y3 : ¬ 9223372036854775807 < sa.size + 1 + sb.size + 1 := by omega
  have y4 : ¬ 9223372036854775807 < sa.size + 1 + sb.size + 1 + sc.size := by omega
  have y5 : ¬ 9223372036854775807 < sa.size + 1 + sb.size + 1 + sc.size + 1 := by omega
  have y6 : ¬ 9223372036854775807 < sa.size + 1 + sb.size + 1 + sc.size + 1 + sd.size := by omega
  have HE := Lib.hid (show (((((sa ++ (⟨#[46]⟩ : ByteArray)) ++ sb) ++ (⟨#[46]⟩ : ByteArray)) ++ sc) ++ (⟨#[46]⟩ : ByteArray)) ++ sd = ⟨(tv4 n).toArray⟩ by
    rw [← hsa, ← hsb, ← hsc, ← hsd, ← ha, ← hb, ← hc, ← hd', ← hb', ← hc']
    apply ByteArray.ext; simp [ByteArray.data_append, tv4, joinC])
  rw [hN]
  clear hn hN ha hb hc hd' hb' hc' hsa hsb hsc hsd z1 z2 z3 z4
  go_enter Tryd.func18, Tryd.ntmps18
  go_wp2_with fail
  refine (HCA.out _).mono ?_
  rintro e w1 ⟨rfl, hb⟩
  have HB1 := Lib.hid hb
  clear hb
  go_wp2_with fail
  refine (HCB.out _).mono ?_
  rintro e w2 ⟨rfl, hb⟩
  have HB2 := Lib.hid (bel2 HB1.out hb)
  clear hb
  go_wp2_with fail
  refine (HCC.out _).mono ?_
  rintro e w3 ⟨rfl, hb⟩
  have HB3 := Lib.hid (bel2 HB2.out hb)
  clear hb
  go_wp2_with fail
  refine (HCD.out _).mono ?_
  rintro e w4 ⟨rfl, hb⟩
  have HB4 := Lib.hid (bel2 HB3.out hb)
  clear hb
  go_wp2_with fail
  go_ret
  exact ⟨by rw [HE.out]; rfl, HB4.out⟩
end Go.Proofs.YtflddokngplgiaaDoor
