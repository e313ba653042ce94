/-
  The document's Source.
-/
import Derived.Test.YtempmmkdppelaaaGreatDoorV5M
import Derived.Test.YtempmmkdppelaaaGreatDoorV7M
namespace Go.Proofs.YtempmmkdppelaaaGreatDoor
open Go.RowKit
/-- a reader's contract, its answer written out -/
def RdC (f : Nat) (s : ByteArray) (m : Option Src) : Prop := ∀ W : World, Calls Tryz.prog f #[.string s] W fun e w' => (∃ y : Src, e = .returned (.tuple #[.agg #[.int .u8 y.kind, .string y.text, .string y.scheme, .bool y.wild, .int .i64 y.port, .bool y.hasPort, .bool y.anyPort, .string y.path], .bool m.isSome]) ∧ ∀ z, m = some z → y = z) ∧ Below W.heap.size W w'
def ScC (s : ByteArray) (n : Nat) : Prop := ∀ W : World, Calls Tryz.prog 52 #[.string s] W fun e w' => e = .returned (.int .i64 n) ∧ w' = W
set_option maxHeartbeats 1000000 in
set_option maxRecDepth 100000 in
theorem rsource_long (s : ByteArray) (h : 4096 < s.size) (hs : s.size ≤ 281474976710656) (w : World) : Calls Tryz.prog 25 #[.string s] w (SrcRet (.error 4) w) := by
  have g1 : decide ((4096 : Int) < (s.size : Int)) = true := decide_eq_true (by omega)
  obtain ⟨X, hX⟩ : ∃ X, w.alloc (.cells #[.int .u8 0, .string ⟨#[]⟩, .string ⟨#[]⟩, .bool false, .int .i64 0, .bool false, .bool false, .string ⟨#[]⟩] 46) = X := ⟨_, rfl⟩
  have HR0 := Lib.hid (show Has X w.heap.size (.cells ({} : Src).cs 46) from hX ▸ Has.new w _)
  have HB0 := Lib.hid (show Below w.heap.size w X from hX ▸ bnew w _)
  have z0 := HR0.out.cell 0 rfl; have z1 := HR0.out.cell 1 rfl; have z2 := HR0.out.cell 2 rfl; have z3 := HR0.out.cell 3 rfl; have z4 := HR0.out.cell 4 rfl; have z5 := HR0.out.cell 5 rfl; have z6 := HR0.out.cell 6 rfl; have z7 := HR0.out.cell 7 rfl
  have f0 := HR0.out.free 0; have f1 := HR0.out.free 1; have f2 := HR0.out.free 2; have f3 := HR0.out.free 3; have f4 := HR0.out.free 4; have f5 := HR0.out.free 5; have f6 := HR0.out.free 6; have f7 := HR0.out.free 7
  go_enter Tryz.func25, Tryz.ntmps25
  go_wp2_with fail
  show bodyPost _ _ _ _ _ (st8 X w.heap.size {})
  exact bodyPost_ret (ret46 (p := 2) (t2 := 3) rfl _ _ w.heap.size {} (.int .i64 4) rfl rfl (st8_has (x := {}) HR0.out)) rfl ⟨rfl, st8_below {} HB0.out (Nat.le_refl _)⟩
set_option maxHeartbeats 2000000 in
set_option maxRecDepth 100000 in
theorem rsource_quot (s : ByteArray) (h4 : s.size ≤ 4096) (x : Src) (hQ : RdC 51 s (some x)) (w : World) : Calls Tryz.prog 25 #[.string s] w (SrcRet (.ok x) w) := by
  have g1 : decide ((4096 : Int) < (s.size : Int)) = false := decide_eq_false (by omega)
  obtain ⟨X, hX⟩ : ∃ X, w.alloc (.cells #[.int .u8 0, .string ⟨#[]⟩, .string ⟨#[]⟩, .bool false, .int .i64 0, .bool false, .bool false, .string ⟨#[]⟩] 46) = X := ⟨_, rfl⟩
  have HR0 := Lib.hid (show Has X w.heap.size (.cells ({} : Src).cs 46) from hX ▸ Has.new w _)
  have HB0 := Lib.hid (show Below w.heap.size w X from hX ▸ bnew w _)
  have HQ := Lib.hid hQ
  clear hQ
  go_enter Tryz.func25, Tryz.ntmps25
  go_wp2_with fail
  refine (HQ.out _).mono ?_
  rintro e w2 ⟨⟨y, rfl, hyx⟩, hb2⟩
  obtain rfl : y = x := hyx x rfl
  obtain ⟨V, hV⟩ : ∃ V, w2.alloc (.cells #[.int .u8 y.kind, .string y.text, .string y.scheme, .bool y.wild, .int .i64 y.port, .bool y.hasPort, .bool y.anyPort, .string y.path] 46) = V := ⟨_, rfl⟩
  have HV := Lib.hid (show Has V w2.heap.size (.cells y.cs 46) from hV ▸ Has.new w2 _)
  have HR := Lib.hid (show Has V w.heap.size (.cells ({} : Src).cs 46) from hV ▸ (HR0.out.to hb2).alloc _)
  have HB := Lib.hid (show Below w.heap.size w V from hV ▸ (HB0.out.trans (hb2.mono HB0.out.size)).alloc (Nat.le_trans HB0.out.size hb2.size) _)
  have hne : w.heap.size < w2.heap.size := Nat.lt_of_lt_of_le HR0.out.lt hb2.size
  clear hb2 HQ
  have z10 : V.cell? ⟨w2.heap.size, 0, none⟩ = some (.int .u8 y.kind) := HV.out.cell 0 rfl; have z11 : V.cell? ⟨w2.heap.size, 1, none⟩ = some (.string y.text) := HV.out.cell 1 rfl; have z12 : V.cell? ⟨w2.heap.size, 2, none⟩ = some (.string y.scheme) := HV.out.cell 2 rfl; have z13 : V.cell? ⟨w2.heap.size, 3, none⟩ = some (.bool y.wild) := HV.out.cell 3 rfl; have z14 : V.cell? ⟨w2.heap.size, 4, none⟩ = some (.int .i64 y.port) := HV.out.cell 4 rfl; have z15 : V.cell? ⟨w2.heap.size, 5, none⟩ = some (.bool y.hasPort) := HV.out.cell 5 rfl; have z16 : V.cell? ⟨w2.heap.size, 6, none⟩ = some (.bool y.anyPort) := HV.out.cell 6 rfl; have z17 : V.cell? ⟨w2.heap.size, 7, none⟩ = some (.string y.path) := HV.out.cell 7 rfl
  have z0 : V.cell? ⟨w.heap.size, 0, none⟩ = some (.int .u8 0) := HR.out.cell 0 rfl; have z1 : V.cell? ⟨w.heap.size, 1, none⟩ = some (.string ⟨#[]⟩) := HR.out.cell 1 rfl; have z2 : V.cell? ⟨w.heap.size, 2, none⟩ = some (.string ⟨#[]⟩) := HR.out.cell 2 rfl; have z3 : V.cell? ⟨w.heap.size, 3, none⟩ = some (.bool false) := HR.out.cell 3 rfl; have z4 : V.cell? ⟨w.heap.size, 4, none⟩ = some (.int .i64 0) := HR.out.cell 4 rfl; have z5 : V.cell? ⟨w.heap.size, 5, none⟩ = some (.bool false) := HR.out.cell 5 rfl; have z6 : V.cell? ⟨w.heap.size, 6, none⟩ = some (.bool false) := HR.out.cell 6 rfl; have z7 : V.cell? ⟨w.heap.size, 7, none⟩ = some (.string ⟨#[]⟩) := HR.out.cell 7 rfl
  have f0 := HR.out.free 0; have f1 := HR.out.free 1; have f2 := HR.out.free 2; have f3 := HR.out.free 3; have f4 := HR.out.free 4; have f5 := HR.out.free 5; have f6 := HR.out.free 6; have f7 := HR.out.free 7
  go_wp2_with fail
  show bodyPost _ _ _ _ _ (st8 V w.heap.size y)
  exact bodyPost_ret (ret46 (p := 2) (t2 := 3) rfl _ _ w.heap.size y (.int .i64 0) rfl rfl (st8_has (x := y) HR.out)) rfl ⟨rfl, st8_below y HB.out (Nat.le_refl _)⟩
set_option maxHeartbeats 2000000 in
set_option maxRecDepth 100000 in
theorem rsource_sch (s : ByteArray) (h4 : s.size ≤ 4096) (n : Nat) (hn : n ≤ s.size) (hQ : RdC 51 s none) (hS : ScC s n) (h0 : 0 < n) (hc : ((s.extract n s.size).toList == [58]) = true) (w : World) : Calls Tryz.prog 25 #[.string s] w (SrcRet (.ok { kind := 4, scheme := lowS (s.extract 0 n) }) w) := by
  have g1 : decide ((4096 : Int) < (s.size : Int)) = false := decide_eq_false (by omega)
  obtain ⟨X, hX⟩ : ∃ X, w.alloc (.cells #[.int .u8 0, .string ⟨#[]⟩, .string ⟨#[]⟩, .bool false, .int .i64 0, .bool false, .bool false, .string ⟨#[]⟩] 46) = X := ⟨_, rfl⟩
  have HR0 := Lib.hid (show Has X w.heap.size (.cells ({} : Src).cs 46) from hX ▸ Has.new w _)
  have HB0 := Lib.hid (show Below w.heap.size w X from hX ▸ bnew w _)
  have HQ := Lib.hid hQ
  have HS := Lib.hid hS
  have b1 : (0 : Int) < (n : Int) := by omega
  have b2 : decide ((0 : Int) < (n : Int)) = true := decide_eq_true b1
  have b3 : decide (0 < n) = true := decide_eq_true h0
  have b4 : (n : Int) ≤ (s.size : Int) := by omega
  have HL := Lib.hid (fun W : World => rlower_is (s.extract 0 n) (by rw [ByteArray.size_extract]; omega) W)
  clear hQ hS
  go_enter Tryz.func25, Tryz.ntmps25
  go_wp2_with fail
  refine (HQ.out _).mono ?_
  rintro e w2 ⟨⟨y, rfl, -⟩, hb2⟩
  obtain ⟨V, hV⟩ : ∃ V, w2.alloc (.cells #[.int .u8 y.kind, .string y.text, .string y.scheme, .bool y.wild, .int .i64 y.port, .bool y.hasPort, .bool y.anyPort, .string y.path] 46) = V := ⟨_, rfl⟩
  have HV := Lib.hid (show Has V w2.heap.size (.cells y.cs 46) from hV ▸ Has.new w2 _)
  have HR := Lib.hid (show Has V w.heap.size (.cells ({} : Src).cs 46) from hV ▸ (HR0.out.to hb2).alloc _)
  have HB := Lib.hid (show Below w.heap.size w V from hV ▸ (HB0.out.trans (hb2.mono HB0.out.size)).alloc (Nat.le_trans HB0.out.size hb2.size) _)
  have hne : w.heap.size < w2.heap.size := Nat.lt_of_lt_of_le HR0.out.lt hb2.size
  clear hb2 HQ
  go_wp2_with (first | (go_at_call 52; refine (HS.out _).mono ?_; rintro e w3 ⟨rfl, hw3⟩; obtain rfl : V = w3 := hw3.symm) | (go_at_call 41; refine (HL.out _).mono ?_; rintro e w4 ⟨rfl, hb4⟩; have HR4 := Lib.hid (HR.out.to hb4); have HB4 := Lib.hid (HB.out.trans (hb4.mono HB.out.size)); clear hb4; have z0 := HR4.out.cell 0 rfl; have z1 := HR4.out.cell 1 rfl; have z2 := HR4.out.cell 2 rfl; have z3 := HR4.out.cell 3 rfl; have z4 := HR4.out.cell 4 rfl; have z5 := HR4.out.cell 5 rfl; have z6 := HR4.out.cell 6 rfl; have z7 := HR4.out.cell 7 rfl; have f0 := HR4.out.free 0; have f1 := HR4.out.free 1; have f2 := HR4.out.free 2; have f3 := HR4.out.free 3; have f4 := HR4.out.free 4; have f5 := HR4.out.free 5; have f6 := HR4.out.free 6; have f7 := HR4.out.free 7))
  show bodyPost _ _ _ _ _ (st8 w4 w.heap.size { kind := 4, scheme := lowS (s.extract 0 n) })
  exact bodyPost_ret (ret46 (p := 2) (t2 := 3) rfl _ _ w.heap.size { kind := 4, scheme := lowS (s.extract 0 n) } (.int .i64 0) rfl rfl (st8_has (x := { kind := 4, scheme := lowS (s.extract 0 n) }) HR4.out)) rfl ⟨rfl, st8_below { kind := 4, scheme := lowS (s.extract 0 n) } HB4.out (Nat.le_refl _)⟩
set_option maxHeartbeats 2000000 in
set_option maxRecDepth 100000 in
theorem rsource_host_p (s : ByteArray) (h4 : s.size ≤ 4096) (n : Nat) (hn : n ≤ s.size) (x : Src) (hQ : RdC 51 s none) (hS : ScC s n) (hO : RdC 53 s (some x)) (h0 : 0 < n) (hc : ((s.extract n s.size).toList == [58]) = false) (w : World) : Calls Tryz.prog 25 #[.string s] w (SrcRet (.ok x) w) := by
  have g1 : decide ((4096 : Int) < (s.size : Int)) = false := decide_eq_false (by omega)
  obtain ⟨X, hX⟩ : ∃ X, w.alloc (.cells #[.int .u8 0, .string ⟨#[]⟩, .string ⟨#[]⟩, .bool false, .int .i64 0, .bool false, .bool false, .string ⟨#[]⟩] 46) = X := ⟨_, rfl⟩
  have HR0 := Lib.hid (show Has X w.heap.size (.cells ({} : Src).cs 46) from hX ▸ Has.new w _)
  have HB0 := Lib.hid (show Below w.heap.size w X from hX ▸ bnew w _)
  have HQ := Lib.hid hQ
  have HS := Lib.hid hS
  have HO := Lib.hid hO
  clear hQ hS hO
  have b1 : (0 : Int) < (n : Int) := by omega
  have b2 : decide ((0 : Int) < (n : Int)) = true := decide_eq_true b1
  have b3 : decide (0 < n) = true := decide_eq_true h0
  have b4 : (n : Int) ≤ (s.size : Int) := by omega
  go_enter Tryz.func25, Tryz.ntmps25
  go_wp2_with fail
  refine (HQ.out _).mono ?_
  rintro e w2 ⟨⟨y, rfl, -⟩, hb2⟩
  obtain ⟨V, hV⟩ : ∃ V, w2.alloc (.cells #[.int .u8 y.kind, .string y.text, .string y.scheme, .bool y.wild, .int .i64 y.port, .bool y.hasPort, .bool y.anyPort, .string y.path] 46) = V := ⟨_, rfl⟩
  have HV := Lib.hid (show Has V w2.heap.size (.cells y.cs 46) from hV ▸ Has.new w2 _)
  have HR := Lib.hid (show Has V w.heap.size (.cells ({} : Src).cs 46) from hV ▸ (HR0.out.to hb2).alloc _)
  have HB := Lib.hid (show Below w.heap.size w V from hV ▸ (HB0.out.trans (hb2.mono HB0.out.size)).alloc (Nat.le_trans HB0.out.size hb2.size) _)
  have hne : w.heap.size < w2.heap.size := Nat.lt_of_lt_of_le HR0.out.lt hb2.size
  clear hb2 HQ
  go_wp2_with (go_at_call 52; refine (HS.out _).mono ?_; rintro e w3 ⟨rfl, hw3⟩; obtain rfl : V = w3 := hw3.symm)
  refine (HO.out _).mono ?_
  rintro e w5 ⟨⟨u, rfl, hux⟩, hb5⟩
  obtain rfl : u = x := hux x rfl
  have HV5 := Lib.hid (HV.out.to hb5); have HR5 := Lib.hid (HR.out.to hb5); have HB5 := Lib.hid (HB.out.trans (hb5.mono HB.out.size))
  clear hb5
  have z10 : w5.cell? ⟨w2.heap.size, 0, none⟩ = some (.int .u8 y.kind) := HV5.out.cell 0 rfl; have z11 : w5.cell? ⟨w2.heap.size, 1, none⟩ = some (.string y.text) := HV5.out.cell 1 rfl; have z12 : w5.cell? ⟨w2.heap.size, 2, none⟩ = some (.string y.scheme) := HV5.out.cell 2 rfl; have z13 : w5.cell? ⟨w2.heap.size, 3, none⟩ = some (.bool y.wild) := HV5.out.cell 3 rfl; have z14 : w5.cell? ⟨w2.heap.size, 4, none⟩ = some (.int .i64 y.port) := HV5.out.cell 4 rfl; have z15 : w5.cell? ⟨w2.heap.size, 5, none⟩ = some (.bool y.hasPort) := HV5.out.cell 5 rfl; have z16 : w5.cell? ⟨w2.heap.size, 6, none⟩ = some (.bool y.anyPort) := HV5.out.cell 6 rfl; have z17 : w5.cell? ⟨w2.heap.size, 7, none⟩ = some (.string y.path) := HV5.out.cell 7 rfl
  have f10 := HV5.out.free 0; have f11 := HV5.out.free 1; have f12 := HV5.out.free 2; have f13 := HV5.out.free 3; have f14 := HV5.out.free 4; have f15 := HV5.out.free 5; have f16 := HV5.out.free 6; have f17 := HV5.out.free 7
  go_upto_if 39 with fail
  have HV6 := Lib.hid (show Has (st8 w5 w2.heap.size u) w2.heap.size (.cells u.cs 46) from st8_has HV5.out)
  have HR6 := Lib.hid (show Has (st8 w5 w2.heap.size u) w.heap.size (.cells ({} : Src).cs 46) from st8_far u HR5.out (by omega))
  have HB6 := Lib.hid (show Below w.heap.size w (st8 w5 w2.heap.size u) from st8_below u HB5.out (by omega))
  clear z10 z11 z12 z13 z14 z15 z16 z17 f10 f11 f12 f13 f14 f15 f16 f17
  unfold st8 at HV6 HR6 HB6
  generalize ((((((((w5.setCell ⟨w2.heap.size, 0, none⟩ _).setCell _ _).setCell _ _).setCell _ _).setCell _ _).setCell _ _).setCell _ _).setCell _ _) = Y at *
  have z10 : Y.cell? ⟨w2.heap.size, 0, none⟩ = some (.int .u8 u.kind) := HV6.out.cell 0 rfl; have z11 : Y.cell? ⟨w2.heap.size, 1, none⟩ = some (.string u.text) := HV6.out.cell 1 rfl; have z12 : Y.cell? ⟨w2.heap.size, 2, none⟩ = some (.string u.scheme) := HV6.out.cell 2 rfl; have z13 : Y.cell? ⟨w2.heap.size, 3, none⟩ = some (.bool u.wild) := HV6.out.cell 3 rfl; have z14 : Y.cell? ⟨w2.heap.size, 4, none⟩ = some (.int .i64 u.port) := HV6.out.cell 4 rfl; have z15 : Y.cell? ⟨w2.heap.size, 5, none⟩ = some (.bool u.hasPort) := HV6.out.cell 5 rfl; have z16 : Y.cell? ⟨w2.heap.size, 6, none⟩ = some (.bool u.anyPort) := HV6.out.cell 6 rfl; have z17 : Y.cell? ⟨w2.heap.size, 7, none⟩ = some (.string u.path) := HV6.out.cell 7 rfl
  have z0 : Y.cell? ⟨w.heap.size, 0, none⟩ = some (.int .u8 0) := HR6.out.cell 0 rfl; have z1 : Y.cell? ⟨w.heap.size, 1, none⟩ = some (.string ⟨#[]⟩) := HR6.out.cell 1 rfl; have z2 : Y.cell? ⟨w.heap.size, 2, none⟩ = some (.string ⟨#[]⟩) := HR6.out.cell 2 rfl; have z3 : Y.cell? ⟨w.heap.size, 3, none⟩ = some (.bool false) := HR6.out.cell 3 rfl; have z4 : Y.cell? ⟨w.heap.size, 4, none⟩ = some (.int .i64 0) := HR6.out.cell 4 rfl; have z5 : Y.cell? ⟨w.heap.size, 5, none⟩ = some (.bool false) := HR6.out.cell 5 rfl; have z6 : Y.cell? ⟨w.heap.size, 6, none⟩ = some (.bool false) := HR6.out.cell 6 rfl; have z7 : Y.cell? ⟨w.heap.size, 7, none⟩ = some (.string ⟨#[]⟩) := HR6.out.cell 7 rfl
  have f0 := HR6.out.free 0; have f1 := HR6.out.free 1; have f2 := HR6.out.free 2; have f3 := HR6.out.free 3; have f4 := HR6.out.free 4; have f5 := HR6.out.free 5; have f6 := HR6.out.free 6; have f7 := HR6.out.free 7
  go_wp2_with fail
  show bodyPost _ _ _ _ _ (st8 Y w.heap.size u)
  exact bodyPost_ret (ret46 (p := 2) (t2 := 3) rfl _ _ w.heap.size u (.int .i64 0) rfl rfl (st8_has (x := u) HR6.out)) rfl ⟨rfl, st8_below u HB6.out (Nat.le_refl _)⟩
set_option maxHeartbeats 2000000 in
set_option maxRecDepth 100000 in
theorem rsource_host_z (s : ByteArray) (h4 : s.size ≤ 4096) (n : Nat) (hn : n ≤ s.size) (x : Src) (hQ : RdC 51 s none) (hS : ScC s n) (hO : RdC 53 s (some x)) (h0 : ¬ 0 < n) (w : World) : Calls Tryz.prog 25 #[.string s] w (SrcRet (.ok x) w) := by
  have g1 : decide ((4096 : Int) < (s.size : Int)) = false := decide_eq_false (by omega)
  obtain ⟨X, hX⟩ : ∃ X, w.alloc (.cells #[.int .u8 0, .string ⟨#[]⟩, .string ⟨#[]⟩, .bool false, .int .i64 0, .bool false, .bool false, .string ⟨#[]⟩] 46) = X := ⟨_, rfl⟩
  have HR0 := Lib.hid (show Has X w.heap.size (.cells ({} : Src).cs 46) from hX ▸ Has.new w _)
  have HB0 := Lib.hid (show Below w.heap.size w X from hX ▸ bnew w _)
  have HQ := Lib.hid hQ
  have HS := Lib.hid hS
  have HO := Lib.hid hO
  clear hQ hS hO
  have b1 : ¬ (0 : Int) < (n : Int) := by omega
  have b2 : decide ((0 : Int) < (n : Int)) = false := decide_eq_false b1
  have b3 : decide (0 < n) = false := decide_eq_false h0
  go_enter Tryz.func25, Tryz.ntmps25
  go_wp2_with fail
  refine (HQ.out _).mono ?_
  rintro e w2 ⟨⟨y, rfl, -⟩, hb2⟩
  obtain ⟨V, hV⟩ : ∃ V, w2.alloc (.cells #[.int .u8 y.kind, .string y.text, .string y.scheme, .bool y.wild, .int .i64 y.port, .bool y.hasPort, .bool y.anyPort, .string y.path] 46) = V := ⟨_, rfl⟩
  have HV := Lib.hid (show Has V w2.heap.size (.cells y.cs 46) from hV ▸ Has.new w2 _)
  have HR := Lib.hid (show Has V w.heap.size (.cells ({} : Src).cs 46) from hV ▸ (HR0.out.to hb2).alloc _)
  have HB := Lib.hid (show Below w.heap.size w V from hV ▸ (HB0.out.trans (hb2.mono HB0.out.size)).alloc (Nat.le_trans HB0.out.size hb2.size) _)
  have hne : w.heap.size < w2.heap.size := Nat.lt_of_lt_of_le HR0.out.lt hb2.size
  clear hb2 HQ
  go_wp2_with (go_at_call 52; refine (HS.out _).mono ?_; rintro e w3 ⟨rfl, hw3⟩; obtain rfl : V = w3 := hw3.symm)
  refine (HO.out _).mono ?_
  rintro e w5 ⟨⟨u, rfl, hux⟩, hb5⟩
  obtain rfl : u = x := hux x rfl
  have HV5 := Lib.hid (HV.out.to hb5); have HR5 := Lib.hid (HR.out.to hb5); have HB5 := Lib.hid (HB.out.trans (hb5.mono HB.out.size))
  clear hb5
  have z10 : w5.cell? ⟨w2.heap.size, 0, none⟩ = some (.int .u8 y.kind) := HV5.out.cell 0 rfl; have z11 : w5.cell? ⟨w2.heap.size, 1, none⟩ = some (.string y.text) := HV5.out.cell 1 rfl; have z12 : w5.cell? ⟨w2.heap.size, 2, none⟩ = some (.string y.scheme) := HV5.out.cell 2 rfl; have z13 : w5.cell? ⟨w2.heap.size, 3, none⟩ = some (.bool y.wild) := HV5.out.cell 3 rfl; have z14 : w5.cell? ⟨w2.heap.size, 4, none⟩ = some (.int .i64 y.port) := HV5.out.cell 4 rfl; have z15 : w5.cell? ⟨w2.heap.size, 5, none⟩ = some (.bool y.hasPort) := HV5.out.cell 5 rfl; have z16 : w5.cell? ⟨w2.heap.size, 6, none⟩ = some (.bool y.anyPort) := HV5.out.cell 6 rfl; have z17 : w5.cell? ⟨w2.heap.size, 7, none⟩ = some (.string y.path) := HV5.out.cell 7 rfl
  have f10 := HV5.out.free 0; have f11 := HV5.out.free 1; have f12 := HV5.out.free 2; have f13 := HV5.out.free 3; have f14 := HV5.out.free 4; have f15 := HV5.out.free 5; have f16 := HV5.out.free 6; have f17 := HV5.out.free 7
  go_upto_if 39 with fail
  have HV6 := Lib.hid (show Has (st8 w5 w2.heap.size u) w2.heap.size (.cells u.cs 46) from st8_has HV5.out)
  have HR6 := Lib.hid (show Has (st8 w5 w2.heap.size u) w.heap.size (.cells ({} : Src).cs 46) from st8_far u HR5.out (by omega))
  have HB6 := Lib.hid (show Below w.heap.size w (st8 w5 w2.heap.size u) from st8_below u HB5.out (by omega))
  clear z10 z11 z12 z13 z14 z15 z16 z17 f10 f11 f12 f13 f14 f15 f16 f17
  unfold st8 at HV6 HR6 HB6
  generalize ((((((((w5.setCell ⟨w2.heap.size, 0, none⟩ _).setCell _ _).setCell _ _).setCell _ _).setCell _ _).setCell _ _).setCell _ _).setCell _ _) = Y at *
  have z10 : Y.cell? ⟨w2.heap.size, 0, none⟩ = some (.int .u8 u.kind) := HV6.out.cell 0 rfl; have z11 : Y.cell? ⟨w2.heap.size, 1, none⟩ = some (.string u.text) := HV6.out.cell 1 rfl; have z12 : Y.cell? ⟨w2.heap.size, 2, none⟩ = some (.string u.scheme) := HV6.out.cell 2 rfl; have z13 : Y.cell? ⟨w2.heap.size, 3, none⟩ = some (.bool u.wild) := HV6.out.cell 3 rfl; have z14 : Y.cell? ⟨w2.heap.size, 4, none⟩ = some (.int .i64 u.port) := HV6.out.cell 4 rfl; have z15 : Y.cell? ⟨w2.heap.size, 5, none⟩ = some (.bool u.hasPort) := HV6.out.cell 5 rfl; have z16 : Y.cell? ⟨w2.heap.size, 6, none⟩ = some (.bool u.anyPort) := HV6.out.cell 6 rfl; have z17 : Y.cell? ⟨w2.heap.size, 7, none⟩ = some (.string u.path) := HV6.out.cell 7 rfl
  have z0 : Y.cell? ⟨w.heap.size, 0, none⟩ = some (.int .u8 0) := HR6.out.cell 0 rfl; have z1 : Y.cell? ⟨w.heap.size, 1, none⟩ = some (.string ⟨#[]⟩) := HR6.out.cell 1 rfl; have z2 : Y.cell? ⟨w.heap.size, 2, none⟩ = some (.string ⟨#[]⟩) := HR6.out.cell 2 rfl; have z3 : Y.cell? ⟨w.heap.size, 3, none⟩ = some (.bool false) := HR6.out.cell 3 rfl; have z4 : Y.cell? ⟨w.heap.size, 4, none⟩ = some (.int .i64 0) := HR6.out.cell 4 rfl; have z5 : Y.cell? ⟨w.heap.size, 5, none⟩ = some (.bool false) := HR6.out.cell 5 rfl; have z6 : Y.cell? ⟨w.heap.size, 6, none⟩ = some (.bool false) := HR6.out.cell 6 rfl; have z7 : Y.cell? ⟨w.heap.size, 7, none⟩ = some (.string ⟨#[]⟩) := HR6.out.cell 7 rfl
  have f0 := HR6.out.free 0; have f1 := HR6.out.free 1; have f2 := HR6.out.free 2; have f3 := HR6.out.free 3; have f4 := HR6.out.free 4; have f5 := HR6.out.free 5; have f6 := HR6.out.free 6; have f7 := HR6.out.free 7
  go_wp2_with fail
  show bodyPost _ _ _ _ _ (st8 Y w.heap.size u)
  exact bodyPost_ret (ret46 (p := 2) (t2 := 3) rfl _ _ w.heap.size u (.int .i64 0) rfl rfl (st8_has (x := u) HR6.out)) rfl ⟨rfl, st8_below u HB6.out (Nat.le_refl _)⟩
set_option maxHeartbeats 2000000 in
set_option maxRecDepth 100000 in
theorem rsource_no_p (s : ByteArray) (h4 : s.size ≤ 4096) (n : Nat) (hn : n ≤ s.size) (hQ : RdC 51 s none) (hS : ScC s n) (hO : RdC 53 s (none)) (h0 : 0 < n) (hc : ((s.extract n s.size).toList == [58]) = false) (w : World) : Calls Tryz.prog 25 #[.string s] w (SrcRet (.error 20) w) := by
  have g1 : decide ((4096 : Int) < (s.size : Int)) = false := decide_eq_false (by omega)
  obtain ⟨X, hX⟩ : ∃ X, w.alloc (.cells #[.int .u8 0, .string ⟨#[]⟩, .string ⟨#[]⟩, .bool false, .int .i64 0, .bool false, .bool false, .string ⟨#[]⟩] 46) = X := ⟨_, rfl⟩
  have HR0 := Lib.hid (show Has X w.heap.size (.cells ({} : Src).cs 46) from hX ▸ Has.new w _)
  have HB0 := Lib.hid (show Below w.heap.size w X from hX ▸ bnew w _)
  have HQ := Lib.hid hQ
  have HS := Lib.hid hS
  have HO := Lib.hid hO
  clear hQ hS hO
  have b1 : (0 : Int) < (n : Int) := by omega
  have b2 : decide ((0 : Int) < (n : Int)) = true := decide_eq_true b1
  have b3 : decide (0 < n) = true := decide_eq_true h0
  have b4 : (n : Int) ≤ (s.size : Int) := by omega
  go_enter Tryz.func25, Tryz.ntmps25
  go_wp2_with fail
  refine (HQ.out _).mono ?_
  rintro e w2 ⟨⟨y, rfl, -⟩, hb2⟩
  obtain ⟨V, hV⟩ : ∃ V, w2.alloc (.cells #[.int .u8 y.kind, .string y.text, .string y.scheme, .bool y.wild, .int .i64 y.port, .bool y.hasPort, .bool y.anyPort, .string y.path] 46) = V := ⟨_, rfl⟩
  have HV := Lib.hid (show Has V w2.heap.size (.cells y.cs 46) from hV ▸ Has.new w2 _)
  have HR := Lib.hid (show Has V w.heap.size (.cells ({} : Src).cs 46) from hV ▸ (HR0.out.to hb2).alloc _)
  have HB := Lib.hid (show Below w.heap.size w V from hV ▸ (HB0.out.trans (hb2.mono HB0.out.size)).alloc (Nat.le_trans HB0.out.size hb2.size) _)
  have hne : w.heap.size < w2.heap.size := Nat.lt_of_lt_of_le HR0.out.lt hb2.size
  clear hb2 HQ
  go_wp2_with (go_at_call 52; refine (HS.out _).mono ?_; rintro e w3 ⟨rfl, hw3⟩; obtain rfl : V = w3 := hw3.symm)
  refine (HO.out _).mono ?_
  rintro e w5 ⟨⟨u, rfl, -⟩, hb5⟩
  have HV5 := Lib.hid (HV.out.to hb5); have HR5 := Lib.hid (HR.out.to hb5); have HB5 := Lib.hid (HB.out.trans (hb5.mono HB.out.size))
  clear hb5
  have z10 : w5.cell? ⟨w2.heap.size, 0, none⟩ = some (.int .u8 y.kind) := HV5.out.cell 0 rfl; have z11 : w5.cell? ⟨w2.heap.size, 1, none⟩ = some (.string y.text) := HV5.out.cell 1 rfl; have z12 : w5.cell? ⟨w2.heap.size, 2, none⟩ = some (.string y.scheme) := HV5.out.cell 2 rfl; have z13 : w5.cell? ⟨w2.heap.size, 3, none⟩ = some (.bool y.wild) := HV5.out.cell 3 rfl; have z14 : w5.cell? ⟨w2.heap.size, 4, none⟩ = some (.int .i64 y.port) := HV5.out.cell 4 rfl; have z15 : w5.cell? ⟨w2.heap.size, 5, none⟩ = some (.bool y.hasPort) := HV5.out.cell 5 rfl; have z16 : w5.cell? ⟨w2.heap.size, 6, none⟩ = some (.bool y.anyPort) := HV5.out.cell 6 rfl; have z17 : w5.cell? ⟨w2.heap.size, 7, none⟩ = some (.string y.path) := HV5.out.cell 7 rfl
  have f10 := HV5.out.free 0; have f11 := HV5.out.free 1; have f12 := HV5.out.free 2; have f13 := HV5.out.free 3; have f14 := HV5.out.free 4; have f15 := HV5.out.free 5; have f16 := HV5.out.free 6; have f17 := HV5.out.free 7
  go_upto_if 39 with fail
  have HV6 := Lib.hid (show Has (st8 w5 w2.heap.size u) w2.heap.size (.cells u.cs 46) from st8_has HV5.out)
  have HR6 := Lib.hid (show Has (st8 w5 w2.heap.size u) w.heap.size (.cells ({} : Src).cs 46) from st8_far u HR5.out (by omega))
  have HB6 := Lib.hid (show Below w.heap.size w (st8 w5 w2.heap.size u) from st8_below u HB5.out (by omega))
  clear z10 z11 z12 z13 z14 z15 z16 z17 f10 f11 f12 f13 f14 f15 f16 f17
  unfold st8 at HV6 HR6 HB6
  generalize ((((((((w5.setCell ⟨w2.heap.size, 0, none⟩ _).setCell _ _).setCell _ _).setCell _ _).setCell _ _).setCell _ _).setCell _ _).setCell _ _) = Y at *
  have z10 : Y.cell? ⟨w2.heap.size, 0, none⟩ = some (.int .u8 u.kind) := HV6.out.cell 0 rfl; have z11 : Y.cell? ⟨w2.heap.size, 1, none⟩ = some (.string u.text) := HV6.out.cell 1 rfl; have z12 : Y.cell? ⟨w2.heap.size, 2, none⟩ = some (.string u.scheme) := HV6.out.cell 2 rfl; have z13 : Y.cell? ⟨w2.heap.size, 3, none⟩ = some (.bool u.wild) := HV6.out.cell 3 rfl; have z14 : Y.cell? ⟨w2.heap.size, 4, none⟩ = some (.int .i64 u.port) := HV6.out.cell 4 rfl; have z15 : Y.cell? ⟨w2.heap.size, 5, none⟩ = some (.bool u.hasPort) := HV6.out.cell 5 rfl; have z16 : Y.cell? ⟨w2.heap.size, 6, none⟩ = some (.bool u.anyPort) := HV6.out.cell 6 rfl; have z17 : Y.cell? ⟨w2.heap.size, 7, none⟩ = some (.string u.path) := HV6.out.cell 7 rfl
  have z0 : Y.cell? ⟨w.heap.size, 0, none⟩ = some (.int .u8 0) := HR6.out.cell 0 rfl; have z1 : Y.cell? ⟨w.heap.size, 1, none⟩ = some (.string ⟨#[]⟩) := HR6.out.cell 1 rfl; have z2 : Y.cell? ⟨w.heap.size, 2, none⟩ = some (.string ⟨#[]⟩) := HR6.out.cell 2 rfl; have z3 : Y.cell? ⟨w.heap.size, 3, none⟩ = some (.bool false) := HR6.out.cell 3 rfl; have z4 : Y.cell? ⟨w.heap.size, 4, none⟩ = some (.int .i64 0) := HR6.out.cell 4 rfl; have z5 : Y.cell? ⟨w.heap.size, 5, none⟩ = some (.bool false) := HR6.out.cell 5 rfl; have z6 : Y.cell? ⟨w.heap.size, 6, none⟩ = some (.bool false) := HR6.out.cell 6 rfl; have z7 : Y.cell? ⟨w.heap.size, 7, none⟩ = some (.string ⟨#[]⟩) := HR6.out.cell 7 rfl
  have f0 := HR6.out.free 0; have f1 := HR6.out.free 1; have f2 := HR6.out.free 2; have f3 := HR6.out.free 3; have f4 := HR6.out.free 4; have f5 := HR6.out.free 5; have f6 := HR6.out.free 6; have f7 := HR6.out.free 7
  go_wp2_with fail
  show bodyPost _ _ _ _ _ (st8 Y w.heap.size {})
  exact bodyPost_ret (ret46 (p := 2) (t2 := 3) rfl _ _ w.heap.size {} (.int .i64 20) rfl rfl (st8_has (x := {}) HR6.out)) rfl ⟨rfl, st8_below {} HB6.out (Nat.le_refl _)⟩
set_option maxHeartbeats 2000000 in
set_option maxRecDepth 100000 in
theorem rsource_no_z (s : ByteArray) (h4 : s.size ≤ 4096) (n : Nat) (hn : n ≤ s.size) (hQ : RdC 51 s none) (hS : ScC s n) (hO : RdC 53 s (none)) (h0 : ¬ 0 < n) (w : World) : Calls Tryz.prog 25 #[.string s] w (SrcRet (.error 20) w) := by
  have g1 : decide ((4096 : Int) < (s.size : Int)) = false := decide_eq_false (by omega)
  obtain ⟨X, hX⟩ : ∃ X, w.alloc (.cells #[.int .u8 0, .string ⟨#[]⟩, .string ⟨#[]⟩, .bool false, .int .i64 0, .bool false, .bool false, .string ⟨#[]⟩] 46) = X := ⟨_, rfl⟩
  have HR0 := Lib.hid (show Has X w.heap.size (.cells ({} : Src).cs 46) from hX ▸ Has.new w _)
  have HB0 := Lib.hid (show Below w.heap.size w X from hX ▸ bnew w _)
  have HQ := Lib.hid hQ
  have HS := Lib.hid hS
  have HO := Lib.hid hO
  clear hQ hS hO
  have b1 : ¬ (0 : Int) < (n : Int) := by omega
  have b2 : decide ((0 : Int) < (n : Int)) = false := decide_eq_false b1
  have b3 : decide (0 < n) = false := decide_eq_false h0
  go_enter Tryz.func25, Tryz.ntmps25
  go_wp2_with fail
  refine (HQ.out _).mono ?_
  rintro e w2 ⟨⟨y, rfl, -⟩, hb2⟩
  obtain ⟨V, hV⟩ : ∃ V, w2.alloc (.cells #[.int .u8 y.kind, .string y.text, .string y.scheme, .bool y.wild, .int .i64 y.port, .bool y.hasPort, .bool y.anyPort, .string y.path] 46) = V := ⟨_, rfl⟩
  have HV := Lib.hid (show Has V w2.heap.size (.cells y.cs 46) from hV ▸ Has.new w2 _)
  have HR := Lib.hid (show Has V w.heap.size (.cells ({} : Src).cs 46) from hV ▸ (HR0.out.to hb2).alloc _)
  have HB := Lib.hid (show Below w.heap.size w V from hV ▸ (HB0.out.trans (hb2.mono HB0.out.size)).alloc (Nat.le_trans HB0.out.size hb2.size) _)
  have hne : w.heap.size < w2.heap.size := Nat.lt_of_lt_of_le HR0.out.lt hb2.size
  clear hb2 HQ
  go_wp2_with (go_at_call 52; refine (HS.out _).mono ?_; rintro e w3 ⟨rfl, hw3⟩; obtain rfl : V = w3 := hw3.symm)
  refine (HO.out _).mono ?_
  rintro e w5 ⟨⟨u, rfl, -⟩, hb5⟩
  have HV5 := Lib.hid (HV.out.to hb5); have HR5 := Lib.hid (HR.out.to hb5); have HB5 := Lib.hid (HB.out.trans (hb5.mono HB.out.size))
  clear hb5
  have z10 : w5.cell? ⟨w2.heap.size, 0, none⟩ = some (.int .u8 y.kind) := HV5.out.cell 0 rfl; have z11 : w5.cell? ⟨w2.heap.size, 1, none⟩ = some (.string y.text) := HV5.out.cell 1 rfl; have z12 : w5.cell? ⟨w2.heap.size, 2, none⟩ = some (.string y.scheme) := HV5.out.cell 2 rfl; have z13 : w5.cell? ⟨w2.heap.size, 3, none⟩ = some (.bool y.wild) := HV5.out.cell 3 rfl; have z14 : w5.cell? ⟨w2.heap.size, 4, none⟩ = some (.int .i64 y.port) := HV5.out.cell 4 rfl; have z15 : w5.cell? ⟨w2.heap.size, 5, none⟩ = some (.bool y.hasPort) := HV5.out.cell 5 rfl; have z16 : w5.cell? ⟨w2.heap.size, 6, none⟩ = some (.bool y.anyPort) := HV5.out.cell 6 rfl; have z17 : w5.cell? ⟨w2.heap.size, 7, none⟩ = some (.string y.path) := HV5.out.cell 7 rfl
  have f10 := HV5.out.free 0; have f11 := HV5.out.free 1; have f12 := HV5.out.free 2; have f13 := HV5.out.free 3; have f14 := HV5.out.free 4; have f15 := HV5.out.free 5; have f16 := HV5.out.free 6; have f17 := HV5.out.free 7
  go_upto_if 39 with fail
  have HV6 := Lib.hid (show Has (st8 w5 w2.heap.size u) w2.heap.size (.cells u.cs 46) from st8_has HV5.out)
  have HR6 := Lib.hid (show Has (st8 w5 w2.heap.size u) w.heap.size (.cells ({} : Src).cs 46) from st8_far u HR5.out (by omega))
  have HB6 := Lib.hid (show Below w.heap.size w (st8 w5 w2.heap.size u) from st8_below u HB5.out (by omega))
  clear z10 z11 z12 z13 z14 z15 z16 z17 f10 f11 f12 f13 f14 f15 f16 f17
  unfold st8 at HV6 HR6 HB6
  generalize ((((((((w5.setCell ⟨w2.heap.size, 0, none⟩ _).setCell _ _).setCell _ _).setCell _ _).setCell _ _).setCell _ _).setCell _ _).setCell _ _) = Y at *
  have z10 : Y.cell? ⟨w2.heap.size, 0, none⟩ = some (.int .u8 u.kind) := HV6.out.cell 0 rfl; have z11 : Y.cell? ⟨w2.heap.size, 1, none⟩ = some (.string u.text) := HV6.out.cell 1 rfl; have z12 : Y.cell? ⟨w2.heap.size, 2, none⟩ = some (.string u.scheme) := HV6.out.cell 2 rfl; have z13 : Y.cell? ⟨w2.heap.size, 3, none⟩ = some (.bool u.wild) := HV6.out.cell 3 rfl; have z14 : Y.cell? ⟨w2.heap.size, 4, none⟩ = some (.int .i64 u.port) := HV6.out.cell 4 rfl; have z15 : Y.cell? ⟨w2.heap.size, 5, none⟩ = some (.bool u.hasPort) := HV6.out.cell 5 rfl; have z16 : Y.cell? ⟨w2.heap.size, 6, none⟩ = some (.bool u.anyPort) := HV6.out.cell 6 rfl; have z17 : Y.cell? ⟨w2.heap.size, 7, none⟩ = some (.string u.path) := HV6.out.cell 7 rfl
  have z0 : Y.cell? ⟨w.heap.size, 0, none⟩ = some (.int .u8 0) := HR6.out.cell 0 rfl; have z1 : Y.cell? ⟨w.heap.size, 1, none⟩ = some (.string ⟨#[]⟩) := HR6.out.cell 1 rfl; have z2 : Y.cell? ⟨w.heap.size, 2, none⟩ = some (.string ⟨#[]⟩) := HR6.out.cell 2 rfl; have z3 : Y.cell? ⟨w.heap.size, 3, none⟩ = some (.bool false) := HR6.out.cell 3 rfl; have z4 : Y.cell? ⟨w.heap.size, 4, none⟩ = some (.int .i64 0) := HR6.out.cell 4 rfl; have z5 : Y.cell? ⟨w.heap.size, 5, none⟩ = some (.bool false) := HR6.out.cell 5 rfl; have z6 : Y.cell? ⟨w.heap.size, 6, none⟩ = some (.bool false) := HR6.out.cell 6 rfl; have z7 : Y.cell? ⟨w.heap.size, 7, none⟩ = some (.string ⟨#[]⟩) := HR6.out.cell 7 rfl
  have f0 := HR6.out.free 0; have f1 := HR6.out.free 1; have f2 := HR6.out.free 2; have f3 := HR6.out.free 3; have f4 := HR6.out.free 4; have f5 := HR6.out.free 5; have f6 := HR6.out.free 6; have f7 := HR6.out.free 7
  go_wp2_with fail
  show bodyPost _ _ _ _ _ (st8 Y w.heap.size {})
  exact bodyPost_ret (ret46 (p := 2) (t2 := 3) rfl _ _ w.heap.size {} (.int .i64 20) rfl rfl (st8_has (x := {}) HR6.out)) rfl ⟨rfl, st8_below {} HB6.out (Nat.le_refl _)⟩
theorem rsource_is (s : ByteArray) (hs : s.size ≤ 281474976710656) (w : World) : Calls Tryz.prog 25 #[.string s] w (SrcRet (sourceP s) w) := by
  unfold sourceP
  by_cases h4 : 4096 < s.size
  · rw [if_pos h4]
    exact rsource_long s h4 hs w
  rw [if_neg h4, ← rsrcD_eq]
  have h4' : s.size ≤ 4096 := by omega
  unfold rsrcD
  have hQ : RdC 51 s (quotP s.data.toList) := fun W => rquoted_is s (by omega) W
  have hO : RdC 53 s (rHost s.data.toList) := fun W => rhosted_is s (by omega) W
  have hS : ScC s (rsch s.data.toList) := fun W => rscheme_is s (by omega) _ rfl W
  have hn : rsch s.data.toList ≤ s.size := by rw [← Ks.len_list]; exact rsch_le _
  have ht : (s.extract (rsch s.data.toList) s.size).toList = s.data.toList.drop (rsch s.data.toList) := by rw [Lib.toList_data, Ks.ext_drop]
  unfold rschP
  rw [← ht, ← ext_take_mk]
  generalize rsch s.data.toList = n at *
  generalize quotP s.data.toList = q at *
  generalize rHost s.data.toList = h at *
  cases q with
  | some x => exact rsource_quot s h4' x hQ w
  | none =>
    rw [Option.none_or]
    by_cases h0 : 0 < n
    · by_cases hc : (s.extract n s.size).toList = [58]
      · rw [if_pos ⟨h0, hc⟩]
        exact rsource_sch s h4' n hn hQ hS h0 (beq_iff_eq.2 hc) w
      · rw [if_neg (fun e => hc e.2), Option.none_or]
        cases h with
        | some x => exact rsource_host_p s h4' n hn x hQ hS hO h0 (beq_eq_false_iff_ne.2 hc) w
        | none => exact rsource_no_p s h4' n hn hQ hS hO h0 (beq_eq_false_iff_ne.2 hc) w
    · rw [if_neg (fun e => h0 e.1), Option.none_or]
      cases h with
      | some x => exact rsource_host_z s h4' n hn x hQ hS hO h0 w
      | none => exact rsource_no_z s h4' n hn hQ hS hO h0 w
end Go.Proofs.YtempmmkdppelaaaGreatDoor
