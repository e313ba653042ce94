import Derived.Test.YtamhmpgaapgmbaaDoorX1
namespace Go.Proofs.YtamhmpgaapgmbaaDoor
open Go.RowKit
theorem u64v (n : Nat) (h : n < 4294967296) : IntKind.u64.wrap (n : Int) = (n : Int) := by
  simp [IntKind.wrap, show IntKind.u64.signed = false from rfl, show IntKind.u64.bits = 64 from rfl]; omega
set_option maxHeartbeats 1000000 in
set_option maxRecDepth 100000 in
theorem refV4_is (n : Nat) (hn : n < 4294967296) (w : World) :
    Calls Tryd.prog 18 #[.int .u32 n] w fun e w' => e = .returned (.string ⟨(tv4 n).toArray⟩) ∧ Below w.heap.size w w' := by
  obtain ⟨N, hN⟩ : ∃ N : Int, (n : Int) = N := ⟨_, rfl⟩
  obtain ⟨a, ha⟩ : ∃ a, n / 16777216 = a := ⟨_, rfl⟩
  obtain ⟨b', hb'⟩ : ∃ a, n / 65536 = a := ⟨_, rfl⟩
  obtain ⟨b, hb⟩ : ∃ a, b' % 256 = a := ⟨_, rfl⟩
  obtain ⟨c', hc'⟩ : ∃ a, n / 256 = a := ⟨_, rfl⟩
  obtain ⟨c, hc⟩ : ∃ a, c' % 256 = a := ⟨_, rfl⟩
  obtain ⟨d, hd'⟩ : ∃ a, n % 256 = a := ⟨_, rfl⟩
  have g0 : 0 ≤ N := by omega
  have k1 : N.tdiv 16777216 = (a : Int) := by rw [Int.tdiv_eq_ediv_of_nonneg g0]; omega
  have k2 : N.tdiv 65536 = (b' : Int) := by rw [Int.tdiv_eq_ediv_of_nonneg g0]; omega
  have k3 : (b' : Int).tmod 256 = (b : Int) := by rw [Int.tmod_eq_emod_of_nonneg (by omega)]; omega
  have k4 : N.tdiv 256 = (c' : Int) := by rw [Int.tdiv_eq_ediv_of_nonneg g0]; omega
  have k5 : (c' : Int).tmod 256 = (c : Int) := by rw [Int.tmod_eq_emod_of_nonneg (by omega)]; omega
  have k6 : N.tmod 256 = (d : Int) := by rw [Int.tmod_eq_emod_of_nonneg (by omega)]; omega
  have k7 : IntKind.u64.wrap N = N := by rw [← hN]; simp [IntKind.wrap, show IntKind.u64.signed = false from rfl, show IntKind.u64.bits = 64 from rfl]; omega
  have l1 : IntKind.u64.wrap (a : Int) = (a : Int) := u64v a (by omega)
  have l2 : IntKind.u64.wrap (b' : Int) = (b' : Int) := u64v b' (by omega)
  have l3 : IntKind.u64.wrap (c' : Int) = (c' : Int) := u64v c' (by omega)
  have l4 : IntKind.u64.wrap (b : Int) = (b : Int) := u64v b (by omega)
  have l5 : IntKind.u64.wrap (c : Int) = (c : Int) := u64v c (by omega)
  have l6 : IntKind.u64.wrap (d : Int) = (d : Int) := u64v d (by omega)
  obtain ⟨sa, hsa⟩ : ∃ t : ByteArray, (⟨(Lib.decDigits a).toArray⟩ : ByteArray) = t := ⟨_, rfl⟩
  obtain ⟨sb, hsb⟩ : ∃ t : ByteArray, (⟨(Lib.decDigits b).toArray⟩ : ByteArray) = t := ⟨_, rfl⟩
  obtain ⟨sc, hsc⟩ : ∃ t : ByteArray, (⟨(Lib.decDigits c).toArray⟩ : ByteArray) = t := ⟨_, rfl⟩
  obtain ⟨sd, hsd⟩ : ∃ t : ByteArray, (⟨(Lib.decDigits d).toArray⟩ : ByteArray) = t := ⟨_, rfl⟩
  have HCA := Lib.hid (show ∀ W, Calls Tryd.prog 33 #[.int .u64 a, .int .u64 10] W fun e w' => e = .returned (.string sa) ∧ Below W.heap.size W w' from fun W => by rw [← hsa]; exact text10_is a (by omega) W)
  have HCB := Lib.hid (show ∀ W, Calls Tryd.prog 33 #[.int .u64 b, .int .u64 10] W fun e w' => e = .returned (.string sb) ∧ Below W.heap.size W w' from fun W => by rw [← hsb]; exact text10_is b (by omega) W)
  have HCC := Lib.hid (show ∀ W, Calls Tryd.prog 33 #[.int .u64 c, .int .u64 10] W fun e w' => e = .returned (.string sc) ∧ Below W.heap.size W w' from fun W => by rw [← hsc]; exact text10_is c (by omega) W)
  have HCD := Lib.hid (show ∀ W, Calls Tryd.prog 33 #[.int .u64 d, .int .u64 10] W fun e w' => e = .returned (.string sd) ∧ Below W.heap.size W w' from fun W => by rw [← hsd]; exact text10_is d (by omega) W)
  have z1 : sa.size ≤ 3 := by rw [← hsa, ba_size]; exact dec_len _ (by omega)
  have z2 : sb.size ≤ 3 := by rw [← hsb, ba_size]; exact dec_len _ (by omega)
  have z3 : sc.size ≤ 3 := by rw [← hsc, ba_size]; exact dec_len _ (by omega)
  have z4 : sd.size ≤ 3 := by rw [← hsd, ba_size]; exact dec_len _ (by omega)
  have y1 : ¬ 9223372036854775807 < sa.size + 1 := by omega
  have y2 : ¬ 9223372036854775807 < sa.size + 1 + sb.size := by omega
  have y3 : ¬ 9223372036854775807 < sa.size + 1 + sb.size + 1 := by omega
  have y4 : ¬ 9223372036854775807 < sa.size + 1 + sb.size + 1 + sc.size := by omega
  have y5 : ¬ 9223372036854775807 < sa.size + 1 + sb.size + 1 + sc.size + 1 := by omega
  have y6 : ¬ 9223372036854775807 < sa.size + 1 + sb.size + 1 + sc.size + 1 + sd.size := by omega
  have HE := Lib.hid (show (((((sa ++ (⟨#[46]⟩ : ByteArray)) ++ sb) ++ (⟨#[46]⟩ : ByteArray)) ++ sc) ++ (⟨#[46]⟩ : ByteArray)) ++ sd = ⟨(tv4 n).toArray⟩ by
    rw [← hsa, ← hsb, ← hsc, ← hsd, ← ha, ← hb, ← hc, ← hd', ← hb', ← hc']
    apply ByteArray.ext; simp [ByteArray.data_append, tv4, joinC])
  rw [hN]
  clear hn hN ha hb hc hd' hb' hc' hsa hsb hsc hsd z1 z2 z3 z4
  go_enter Tryd.func18, Tryd.ntmps18
  go_wp2_with fail
  refine (HCA.out _).mono ?_
  rintro e w1 ⟨rfl, hb⟩
  have HB1 := Lib.hid hb
  clear hb
  go_wp2_with fail
  refine (HCB.out _).mono ?_
  rintro e w2 ⟨rfl, hb⟩
  have HB2 := Lib.hid (bel2 HB1.out hb)
  clear hb
  go_wp2_with fail
  refine (HCC.out _).mono ?_
  rintro e w3 ⟨rfl, hb⟩
  have HB3 := Lib.hid (bel2 HB2.out hb)
  clear hb
  go_wp2_with fail
  refine (HCD.out _).mono ?_
  rintro e w4 ⟨rfl, hb⟩
  have HB4 := Lib.hid (bel2 HB3.out hb)
  clear hb
  go_wp2_with fail
  go_ret
  exact ⟨by rw [HE.out]; rfl, HB4.out⟩
end Go.Proofs.YtamhmpgaapgmbaaDoor
