import Derived.Test.YtamhmpgaapgmbaaDoorA24
import Derived.Test.YtamhmpgaapgmbaaDoorM4
namespace Go.Proofs.YtamhmpgaapgmbaaDoor
open Go.RowKit
theorem enc7 : ∀ n : Nat, n < 128 → Utf8.encode (n : Int) = ⟨#[UInt8.ofNat n]⟩ := by decide +kernel
theorem conv7 (b : UInt8) (h : b.toNat < 128) (W : World) : (convert 5 9 (.int .u8 (b.toNat : Int))).run Tryd.prog W = .ok (.string ⟨#[b]⟩) W := by
  rw [run_convert_int_string W 5 9 .u8 _ (by rw [Tryd.underlying5]; rfl) Tryd.underlying9, enc7 _ h, UInt8.ofNat_toNat]
def hu (q : Nat) : UInt8 := if q < 10 then UInt8.ofNat (48 + q) else UInt8.ofNat (55 + q)
theorem hd7 : ∀ q, q < 16 → (hd q).toNat < 128 ∧ (hu q).toNat < 128 := by decide
theorem tabA : ∀ (p : Nat) (h : p < 16), ([48, 49, 50, 51, 52, 53, 54, 55, 56, 57, 97, 98, 99, 100, 101, 102] : List UInt8)[p] = hd p := by decide
theorem tabB : ∀ (p : Nat) (h : p < 16), ([48, 49, 50, 51, 52, 53, 54, 55, 56, 57, 65, 66, 67, 68, 69, 70] : List UInt8)[p] = hu p := by decide
theorem tabO : ∀ (p : Nat) (h : p < 8), ([48, 49, 50, 51, 52, 53, 54, 55] : List UInt8)[p] = UInt8.ofNat (48 + p) := by decide
theorem oct7 : ∀ q, q < 8 → (UInt8.ofNat (48 + q)).toNat < 128 := by decide
theorem idxA (p : Nat) (h : p < 16) (W : World) : (Instr.index 9 (.string ⟨#[48, 49, 50, 51, 52, 53, 54, 55, 56, 57, 97, 98, 99, 100, 101, 102]⟩) (.int .u8 (p : Int))).run Tryd.prog W = .ok (.int .u8 ((hd p).toNat : Int)) W := by
  rw [run_index_string W 9 _ _ _ Tryd.underlying9, dif_pos ⟨by omega, by show (p : Int) < 16; omega⟩, ← tabA p h]
  rfl
theorem idxB (p : Nat) (h : p < 16) (W : World) : (Instr.index 9 (.string ⟨#[48, 49, 50, 51, 52, 53, 54, 55, 56, 57, 65, 66, 67, 68, 69, 70]⟩) (.int .u8 (p : Int))).run Tryd.prog W = .ok (.int .u8 ((hu p).toNat : Int)) W := by
  rw [run_index_string W 9 _ _ _ Tryd.underlying9, dif_pos ⟨by omega, by show (p : Int) < 16; omega⟩, ← tabB p h]
  rfl
theorem idxO (p : Nat) (h : p < 8) (W : World) : (Instr.index 9 (.string ⟨#[48, 49, 50, 51, 52, 53, 54, 55]⟩) (.int .u8 (p : Int))).run Tryd.prog W = .ok (.int .u8 ((UInt8.ofNat (48 + p)).toNat : Int)) W := by
  rw [run_index_string W 9 _ _ _ Tryd.underlying9, dif_pos ⟨by omega, by show (p : Int) < 8; omega⟩, ← tabO p h]
  rfl
theorem u8w (n : Nat) (h : n < 256) : IntKind.u8.wrap (n : Int) = (n : Int) := by
  simp [IntKind.wrap, show IntKind.u8.signed = false from rfl, show IntKind.u8.bits = 8 from rfl]; omega
set_option maxHeartbeats 1000000 in
set_option maxRecDepth 100000 in
theorem hexf_is (x : Nat) (hx : x < 256) (w : World) :
    Calls Tryd.prog 21 #[.int .u8 x] w fun e w' => e = .returned (.string ⟨(hexF x).toArray⟩) ∧ Below w.heap.size w w' := by
  have hm0 : Tryd.prog.follows .mixedOrders = true := by kernel_rfl
  obtain ⟨p, hp⟩ : ∃ p, x / 16 = p := ⟨_, rfl⟩
  obtain ⟨q, hq⟩ : ∃ q, x % 16 = q := ⟨_, rfl⟩
  obtain ⟨c, hc⟩ : ∃ c, (hd p).toNat = c := ⟨_, rfl⟩
  obtain ⟨d, hd'⟩ : ∃ d, (hu q).toNat = d := ⟨_, rfl⟩
  obtain ⟨C, hC⟩ : ∃ C : ByteArray, (⟨#[hd p]⟩ : ByteArray) = C := ⟨_, rfl⟩
  obtain ⟨D, hD⟩ : ∃ D : ByteArray, (⟨#[hu q]⟩ : ByteArray) = D := ⟨_, rfl⟩
  have k1 : IntKind.u8.wrap ((x : Int) / 16) = (p : Int) := by
    have := u8w p (by omega); rw [← this]; congr 1; omega
  have k2 : IntKind.u8.wrap ((x : Int) % 16) = (q : Int) := by
    have := u8w q (by omega); rw [← this]; congr 1; omega
  have k3 : (x : Int) % 16 = (q : Int) := by omega
  have k4 : (x : Int).tmod 16 = (q : Int) := by rw [Int.tmod_eq_emod_of_nonneg (by omega)]; omega
  have i1 : ∀ W, (Instr.index 9 (.string ⟨#[48, 49, 50, 51, 52, 53, 54, 55, 56, 57, 97, 98, 99, 100, 101, 102]⟩) (.int .u8 (p : Int))).run Tryd.prog W = .ok (.int .u8 (c : Int)) W := fun W => by rw [idxA p (by omega), hc]
  have i2 : ∀ W, (Instr.index 9 (.string ⟨#[48, 49, 50, 51, 52, 53, 54, 55, 56, 57, 65, 66, 67, 68, 69, 70]⟩) (.int .u8 (q : Int))).run Tryd.prog W = .ok (.int .u8 (d : Int)) W := fun W => by rw [idxB q (by omega), hd']
  have v1 : ∀ W, (convert 5 9 (.int .u8 (c : Int))).run Tryd.prog W = .ok (.string C) W := fun W => by rw [← hc, conv7 _ (hd7 p (by omega)).1, hC]
  have v2 : ∀ W, (convert 5 9 (.int .u8 (d : Int))).run Tryd.prog W = .ok (.string D) W := fun W => by rw [← hd', conv7 _ (hd7 q (by omega)).2, hD]
  have s1 : C.size = 1 := by rw [← hC]; rfl
  have s2 : D.size = 1 := by rw [← hD]; rfl
  have HE := Lib.hid (show ((⟨#[48, 120]⟩ : ByteArray) ++ C) ++ D = ⟨(hexF x).toArray⟩ by
    rw [← hC, ← hD]; apply ByteArray.ext; rw [ByteArray.data_append, ByteArray.data_append]; simp [hexF, hp, hq, hu])
  clear hp hq hc hd' hC hD
  go_enter Tryd.func21, Tryd.ntmps21
  go_wp2_with fail
  refine wp_region_quiet_later hm0 (by kernel_rfl) ?_
  quiet_step (fail)
  quiet_step (fail)
  quiet_step (fail)
  quiet_step (fail)
  quiet_step (fail)
  quiet_step (fail)
  quiet_step (fail)
  quiet_step (fail)
  quiet_step (fail)
  quiet_step (fail)
  quiet_step (fail)
  refine wpQuiet_nil ?_
  rintro _ ⟨p, rfl⟩
  have HB := Lib.hid p.h
  go_wp2_with fail
  go_ret
  exact ⟨by rw [HE.out]; rfl, HB.out⟩
set_option maxHeartbeats 1000000 in
set_option maxRecDepth 100000 in
theorem octf_is (x : Nat) (hx : x < 256) (w : World) :
    Calls Tryd.prog 22 #[.int .u8 x] w fun e w' => e = .returned (.string ⟨(octF x).toArray⟩) ∧ Below w.heap.size w w' := by
  have hm0 : Tryd.prog.follows .mixedOrders = true := by kernel_rfl
  obtain ⟨p, hp⟩ : ∃ p, x / 64 = p := ⟨_, rfl⟩
  obtain ⟨r, hr⟩ : ∃ r, x / 8 = r := ⟨_, rfl⟩
  obtain ⟨o, ho⟩ : ∃ o, r % 8 = o := ⟨_, rfl⟩
  obtain ⟨q, hq⟩ : ∃ q, x % 8 = q := ⟨_, rfl⟩
  obtain ⟨c, hc⟩ : ∃ c, (UInt8.ofNat (48 + p)).toNat = c := ⟨_, rfl⟩
  obtain ⟨d, hd'⟩ : ∃ d, (UInt8.ofNat (48 + o)).toNat = d := ⟨_, rfl⟩
  obtain ⟨f, hf⟩ : ∃ f, (UInt8.ofNat (48 + q)).toNat = f := ⟨_, rfl⟩
  obtain ⟨C, hC⟩ : ∃ C : ByteArray, (⟨#[UInt8.ofNat (48 + p)]⟩ : ByteArray) = C := ⟨_, rfl⟩
  obtain ⟨D, hD⟩ : ∃ D : ByteArray, (⟨#[UInt8.ofNat (48 + o)]⟩ : ByteArray) = D := ⟨_, rfl⟩
  obtain ⟨F, hF⟩ : ∃ F : ByteArray, (⟨#[UInt8.ofNat (48 + q)]⟩ : ByteArray) = F := ⟨_, rfl⟩
  have k1 : IntKind.u8.wrap ((x : Int) / 64) = (p : Int) := by
    have := u8w p (by omega); rw [← this]; congr 1; omega
  have k2 : IntKind.u8.wrap ((x : Int) / 8) = (r : Int) := by
    have := u8w r (by omega); rw [← this]; congr 1; omega
  have k3 : (r : Int).tmod 8 = (o : Int) := by rw [Int.tmod_eq_emod_of_nonneg (by omega)]; omega
  have k4 : (x : Int).tmod 8 = (q : Int) := by rw [Int.tmod_eq_emod_of_nonneg (by omega)]; omega
  have i1 : ∀ W, (Instr.index 9 (.string ⟨#[48, 49, 50, 51, 52, 53, 54, 55]⟩) (.int .u8 (p : Int))).run Tryd.prog W = .ok (.int .u8 (c : Int)) W := fun W => by rw [idxO p (by omega), hc]
  have i2 : ∀ W, (Instr.index 9 (.string ⟨#[48, 49, 50, 51, 52, 53, 54, 55]⟩) (.int .u8 (o : Int))).run Tryd.prog W = .ok (.int .u8 (d : Int)) W := fun W => by rw [idxO o (by omega), hd']
  have i3 : ∀ W, (Instr.index 9 (.string ⟨#[48, 49, 50, 51, 52, 53, 54, 55]⟩) (.int .u8 (q : Int))).run Tryd.prog W = .ok (.int .u8 (f : Int)) W := fun W => by rw [idxO q (by omega), hf]
  have v1 : ∀ W, (convert 5 9 (.int .u8 (c : Int))).run Tryd.prog W = .ok (.string C) W := fun W => by rw [← hc, conv7 _ (oct7 p (by omega)), hC]
  have v2 : ∀ W, (convert 5 9 (.int .u8 (d : Int))).run Tryd.prog W = .ok (.string D) W := fun W => by rw [← hd', conv7 _ (oct7 o (by omega)), hD]
  have v3 : ∀ W, (convert 5 9 (.int .u8 (f : Int))).run Tryd.prog W = .ok (.string F) W := fun W => by rw [← hf, conv7 _ (oct7 q (by omega)), hF]
  have s1 : C.size = 1 := by rw [← hC]; rfl
  have s2 : D.size = 1 := by rw [← hD]; rfl
  have s3 : F.size = 1 := by rw [← hF]; rfl
  have HE := Lib.hid (show (((⟨#[48]⟩ : ByteArray) ++ C) ++ D) ++ F = ⟨(octF x).toArray⟩ by
    rw [← hC, ← hD, ← hF]; apply ByteArray.ext; rw [ByteArray.data_append, ByteArray.data_append, ByteArray.data_append]; simp [octF, hp, hq, hr, ho])
  clear hp hq hc hd' hC hD hF hf hr ho
  go_enter Tryd.func22, Tryd.ntmps22
  go_wp2_with fail
  refine wp_region_quiet_later hm0 (by kernel_rfl) ?_
  quiet_step (fail)
  quiet_step (fail)
  quiet_step (fail)
  quiet_step (fail)
  quiet_step (fail)
  quiet_step (fail)
  quiet_step (fail)
  quiet_step (fail)
  quiet_step (fail)
  quiet_step (fail)
  quiet_step (fail)
  quiet_step (fail)
  quiet_step (fail)
  quiet_step (fail)
  quiet_step (fail)
  quiet_step (fail)
  quiet_step (fail)
  refine wpQuiet_nil ?_
  rintro _ ⟨p, rfl⟩
  have HB := Lib.hid p.h
  go_wp2_with fail
  go_ret
  exact ⟨by rw [HE.out]; rfl, HB.out⟩
theorem or_up (i a b : Nat) (h : b < 2 ^ i) : 2 ^ i * a ||| b = 2 ^ i * a + b := (Nat.two_pow_add_eq_or_of_lt h a).symm
theorem or4 (a b c d : Nat) (ha : a < 256) (hb : b < 256) (hc : c < 256) (hd : d < 256) :
    bits .or .u32 (bits .or .u32 (bits .or .u32 ((a : Int) * 16777216) ((b : Int) * 65536)) ((c : Int) * 256)) (d : Int) = ((a * 16777216 + b * 65536 + c * 256 + d : Nat) : Int) := by
  have e1 : bits .or .u32 ((a : Int) * 16777216) ((b : Int) * 65536) = ((a * 16777216 + b * 65536 : Nat) : Int) := by
    have h := u32_or_nat (a * 16777216) (b * 65536) (by omega) (by omega)
    have h2 := or_up 24 a (b * 65536) (by omega)
    rw [show a * 16777216 = 2 ^ 24 * a by omega, h2] at h
    rw [show (a : Int) * 16777216 = ((2 ^ 24 * a : Nat) : Int) by omega, show (b : Int) * 65536 = ((b * 65536 : Nat) : Int) by omega, h]
    congr 1; omega
  have e2 : bits .or .u32 ((a * 16777216 + b * 65536 : Nat) : Int) ((c : Int) * 256) = ((a * 16777216 + b * 65536 + c * 256 : Nat) : Int) := by
    have h := u32_or_nat (a * 16777216 + b * 65536) (c * 256) (by omega) (by omega)
    have h2 := or_up 16 (a * 256 + b) (c * 256) (by omega)
    rw [show a * 16777216 + b * 65536 = 2 ^ 16 * (a * 256 + b) by omega, h2] at h
    rw [show ((a * 16777216 + b * 65536 : Nat) : Int) = ((2 ^ 16 * (a * 256 + b) : Nat) : Int) by omega, show (c : Int) * 256 = ((c * 256 : Nat) : Int) by omega, h]
    congr 1; omega
  have h := u32_or_nat (a * 16777216 + b * 65536 + c * 256) d (by omega) (by omega)
  have h2 := or_up 8 (a * 65536 + b * 256 + c) d (by omega)
  rw [show a * 16777216 + b * 65536 + c * 256 = 2 ^ 8 * (a * 65536 + b * 256 + c) by omega, h2] at h
  rw [e1, e2, show ((a * 16777216 + b * 65536 + c * 256 : Nat) : Int) = ((2 ^ 8 * (a * 65536 + b * 256 + c) : Nat) : Int) by omega, h]
  congr 1; omega
theorem ba_app (l m : List UInt8) : (⟨l.toArray⟩ : ByteArray) ++ ⟨m.toArray⟩ = ⟨(l ++ m).toArray⟩ := by
  apply ByteArray.ext; rw [ByteArray.data_append]; simp
theorem form1 (a b c d : Nat) (ha : a < 256) (hb : b < 256) (hc : c < 256) (hd : d < 256) :
    v4O ((hexF a ++ 46 :: (octF b ++ 46 :: (hexF c ++ 46 :: octF d)))) = some (a * 16777216 + b * 65536 + c * 256 + d) :=
  v4_forms _ _ _ _ a b c d (forms_ok a ha).1 (forms_ok b hb).2.1 (forms_ok c hc).1 (forms_ok d hd).2.1 ha hb hc hd (forms_ok a ha).2.2.1 (forms_ok b hb).2.2.2.1 (forms_ok c hc).2.2.1 (forms_ok d hd).2.2.2.1 (by simp [octF])
theorem form2 (a b c d : Nat) (ha : a < 256) (hb : b < 256) (hc : c < 256) (hd : d < 256) :
    v4O ((hexF a ++ 46 :: (octF b ++ 46 :: (hexF c ++ 46 :: hexF d)))) = some (a * 16777216 + b * 65536 + c * 256 + d) :=
  v4_forms _ _ _ _ a b c d (forms_ok a ha).1 (forms_ok b hb).2.1 (forms_ok c hc).1 (forms_ok d hd).1 ha hb hc hd (forms_ok a ha).2.2.1 (forms_ok b hb).2.2.2.1 (forms_ok c hc).2.2.1 (forms_ok d hd).2.2.1 (by simp [hexF])
set_option maxHeartbeats 2000000 in
set_option maxRecDepth 100000 in
theorem AddrBytes_walk (a : Nat) (ha : a < 256) (b : Nat) (hb : b < 256) (c : Nat) (hc : c < 256) (d : Nat) (hd : d < 256) (w : World) (hG : Glob w) :
    Calls Tryd.prog 8 #[.int .u8 a, .int .u8 b, .int .u8 c, .int .u8 d] w fun e w' => e = .returned (.bool true) ∧ Below w.heap.size w w' := by
  have HG := Lib.hid hG
  have hm0 : Tryd.prog.follows .mixedOrders = true := by kernel_rfl
  obtain ⟨n, hn⟩ : ∃ n, a * 16777216 + b * 65536 + c * 256 + d = n := ⟨_, rfl⟩
  have k0 : bits .or .u32 (bits .or .u32 (bits .or .u32 ((a : Int) * 16777216) ((b : Int) * 65536)) ((c : Int) * 256)) (d : Int) = (n : Int) := by rw [← hn]; exact or4 a b c d ha hb hc hd
  obtain ⟨sa, hsa⟩ : ∃ t : ByteArray, (⟨(hexF a).toArray⟩ : ByteArray) = t := ⟨_, rfl⟩
  obtain ⟨sb, hsb⟩ : ∃ t : ByteArray, (⟨(octF b).toArray⟩ : ByteArray) = t := ⟨_, rfl⟩
  obtain ⟨sc, hsc⟩ : ∃ t : ByteArray, (⟨(hexF c).toArray⟩ : ByteArray) = t := ⟨_, rfl⟩
  obtain ⟨sd, hsd⟩ : ∃ t : ByteArray, (⟨(octF d).toArray⟩ : ByteArray) = t := ⟨_, rfl⟩
  obtain ⟨se, hse⟩ : ∃ t : ByteArray, (⟨(hexF d).toArray⟩ : ByteArray) = t := ⟨_, rfl⟩
  have HCA := Lib.hid (show ∀ W, Calls Tryd.prog 21 #[.int .u8 a] W fun e w' => e = .returned (.string sa) ∧ Below W.heap.size W w' from fun W => by rw [← hsa]; exact hexf_is a ha W)
  have HCB := Lib.hid (show ∀ W, Calls Tryd.prog 22 #[.int .u8 b] W fun e w' => e = .returned (.string sb) ∧ Below W.heap.size W w' from fun W => by rw [← hsb]; exact octf_is b hb W)
  have HCC := Lib.hid (show ∀ W, Calls Tryd.prog 21 #[.int .u8 c] W fun e w' => e = .returned (.string sc) ∧ Below W.heap.size W w' from fun W => by rw [← hsc]; exact hexf_is c hc W)
  have HCD := Lib.hid (show ∀ W, Calls Tryd.prog 22 #[.int .u8 d] W fun e w' => e = .returned (.string sd) ∧ Below W.heap.size W w' from fun W => by rw [← hsd]; exact octf_is d hd W)
  have HCE := Lib.hid (show ∀ W, Calls Tryd.prog 21 #[.int .u8 d] W fun e w' => e = .returned (.string se) ∧ Below W.heap.size W w' from fun W => by rw [← hse]; exact hexf_is d hd W)
  have z1 : sa.size = 4 := by rw [← hsa]; rfl
  have z2 : sb.size = 4 := by rw [← hsb]; rfl
  have z3 : sc.size = 4 := by rw [← hsc]; rfl
  have z4 : sd.size = 4 := by rw [← hsd]; rfl
  have z5 : se.size = 4 := by rw [← hse]; rfl
  obtain ⟨f, hf⟩ : ∃ t : ByteArray, (((((sa ++ (⟨#[46]⟩ : ByteArray)) ++ sb) ++ (⟨#[46]⟩ : ByteArray)) ++ sc) ++ (⟨#[46]⟩ : ByteArray)) ++ sd = t := ⟨_, rfl⟩
  obtain ⟨g, hg⟩ : ∃ t : ByteArray, (((((sa ++ (⟨#[46]⟩ : ByteArray)) ++ sb) ++ (⟨#[46]⟩ : ByteArray)) ++ sc) ++ (⟨#[46]⟩ : ByteArray)) ++ se = t := ⟨_, rfl⟩
  have HF := Lib.hid hf
  have HH := Lib.hid hg
  have HFS := Lib.hid (show f.size ≤ 140737488355328 by rw [← hf]; simp only [ByteArray.size_append, z1, z2, z3, z4]; decide)
  have HHS := Lib.hid (show g.size ≤ 140737488355328 by rw [← hg]; simp only [ByteArray.size_append, z1, z2, z3, z5]; decide)
  have HFV := Lib.hid (show v4O f.data.toList = some n by
    rw [← hn, ← form1 a b c d ha hb hc hd, ← hf, ← hsa, ← hsb, ← hsc, ← hsd]; rfl)
  have HHV := Lib.hid (show v4O g.data.toList = some n by
    rw [← hn, ← form2 a b c d ha hb hc hd, ← hg, ← hsa, ← hsb, ← hsc, ← hse]; rfl)
  clear hG hn hsa hsb hsc hsd hse hf hg
  go_enter Tryd.func8, Tryd.ntmps8
  go_wp2_with fail
  refine (lives_is _ HG.out).mono ?_
  rintro e w1 ⟨rfl, hb⟩
  have HB1 := Lib.hid hb
  have HG1 := Lib.hid (HG.out.to hb)
  clear hb
  go_wp2_with fail
  refine (HCA.out _).mono ?_
  rintro e w2 ⟨rfl, hb⟩
  have HB2 := Lib.hid (bel2 HB1.out hb)
  clear hb
  go_wp2_with fail
  refine (HCB.out _).mono ?_
  rintro e w3 ⟨rfl, hb⟩
  have HB3 := Lib.hid (bel2 HB2.out hb)
  clear hb
  go_wp2_with fail
  refine (HCC.out _).mono ?_
  rintro e w4 ⟨rfl, hb⟩
  have HB4 := Lib.hid (bel2 HB3.out hb)
  clear hb
  go_wp2_with fail
  refine (HCD.out _).mono ?_
  rintro e w5 ⟨rfl, hb⟩
  have HB5 := Lib.hid (bel2 HB4.out hb)
  have HG5 := Lib.hid (HG.out.to HB5.out)
  clear hb
  go_wp2_with fail
  rw [HF.out]
  refine (v4_is f HFS.out _ HG5.out).mono ?_
  rintro e w6 ⟨rfl, hb⟩
  have HB6 := Lib.hid (bel2 HB5.out hb)
  have HG6 := Lib.hid (HG5.out.to hb)
  clear hb
  rw [HFV.out]
  simp only [ansE]
  go_wp2_with fail
  have HV := Lib.hid (show ∀ p : Later w6, Calls Tryd.prog 10 #[.string g] p.v fun e w' => e = .returned (.tuple #[.int .u32 n, .int .i64 0]) ∧ Below p.v.heap.size p.v w' from fun p => by
    have h := v4_is g HHS.out p.v (HG6.out.to p.h)
    rw [HHV.out] at h
    exact h)
  refine wp_region_quiet_later hm0 (by kernel_rfl) ?_
  quiet_step (fail)
  quiet_step (fail)
  quiet_step ((go_at_call 21; exact Calls.later_of (HCA.out _)))
  quiet_step (fail)
  quiet_step (fail)
  quiet_step (fail)
  quiet_step ((go_at_call 22; exact Calls.later_of (HCB.out _)))
  quiet_step (fail)
  quiet_step (fail)
  quiet_step (fail)
  quiet_step (fail)
  quiet_step ((go_at_call 21; exact Calls.later_of (HCC.out _)))
  quiet_step (fail)
  quiet_step (fail)
  quiet_step (fail)
  quiet_step ((go_at_call 22; exact Calls.later_of (HCD.out _)))
  quiet_step (fail)
  quiet_step (fail)
  quiet_step (fail)
  quiet_step (fail)
  quiet_step (fail)
  quiet_step ((go_at_call 21; exact Calls.later_of (HCE.out _)))
  quiet_step (fail)
  rw [HH.out]
  quiet_step ((go_at_call 10; exact Calls.later_of (HV.out _)))
  quiet_step (fail)
  quiet_step (fail)
  quiet_step (fail)
  quiet_step (fail)
  quiet_step (fail)
  refine wpQuiet_nil ?_
  rintro _ ⟨p, rfl⟩
  have HB7 := Lib.hid (bel2 HB6.out p.h)
  go_wp2_with fail
  go_ret
  exact ⟨rfl, HB7.out⟩
end Go.Proofs.YtamhmpgaapgmbaaDoor
