/-
  The document's quoted.
-/
import Derived.Test.YtempmmkdppelaaaGreatDoorVMM
namespace Go.Proofs.YtempmmkdppelaaaGreatDoor
open Go.RowKit
theorem has_drew {W : World} {g : Nat} {o : Obj} (h : Has W g o) : Has W.drew g o := h
/-- what stands between marks -/
def MkC (s t : ByteArray) (r : Bool) : Prop := ∀ W : World, Calls Tryz.prog 70 #[.string s] W fun e w' => e = .returned (.tuple #[.string t, .bool r]) ∧ w' = W
def LoC (t low : ByteArray) : Prop := ∀ W : World, Calls Tryz.prog 41 #[.string t] W fun e w' => e = .returned (.string low) ∧ Below W.heap.size W w'
def KwC (low : ByteArray) (r : Bool) : Prop := ∀ W : World, Calls Tryz.prog 71 #[.string low] W fun e w' => e = .returned (.bool r) ∧ Below W.heap.size W w'
def CoC (t : ByteArray) (r : Bool) : Prop := ∀ W : World, Calls Tryz.prog 72 #[.string t] W fun e w' => e = .returned (.bool r) ∧ w' = W
set_option maxHeartbeats 4000000 in
set_option maxRecDepth 100000 in
theorem rquoted_no (s t : ByteArray) (hM : MkC s t false) (w : World) : Calls Tryz.prog 51 #[.string s] w (RdRet (none) w) := by
  obtain ⟨X, hX⟩ : ∃ X, w.alloc (.cells #[.int .u8 0, .string ⟨#[]⟩, .string ⟨#[]⟩, .bool false, .int .i64 0, .bool false, .bool false, .string ⟨#[]⟩] 46) = X := ⟨_, rfl⟩
  have HXB := Lib.hid (show Has X w.heap.size (.cells ({} : Src).cs 46) from hX ▸ Has.new w _)
  have HB0 := Lib.hid (show Below w.heap.size w X from hX ▸ bnew w _)
  have HM := Lib.hid hM
  clear hM
  have HXK := HXB
  have HB2 := HB0
  have z0 := HXK.out.cell 0 rfl; have z1 := HXK.out.cell 1 rfl; have z2 := HXK.out.cell 2 rfl; have z3 := HXK.out.cell 3 rfl; have z4 := HXK.out.cell 4 rfl; have z5 := HXK.out.cell 5 rfl; have z6 := HXK.out.cell 6 rfl; have z7 := HXK.out.cell 7 rfl; have f0 := HXK.out.free 0; have f1 := HXK.out.free 1; have f2 := HXK.out.free 2; have f3 := HXK.out.free 3; have f4 := HXK.out.free 4; have f5 := HXK.out.free 5; have f6 := HXK.out.free 6; have f7 := HXK.out.free 7
  go_enter Tryz.func51, Tryz.ntmps51
  go_wp2_with (first | (go_at_call 70; refine (HM.out _).mono ?_; rintro e w1 ⟨rfl, rfl⟩))
  show bodyPost _ _ _ _ _ (st8 _ w.heap.size {})
  exact bodyPost_ret (ret46 (p := 2) (t2 := 3) rfl _ _ w.heap.size {} (.bool false) rfl rfl (st8_has (x := {}) HXK.out)) rfl (src_done {} false rfl HB2.out (fun y hy => by cases hy))
set_option maxHeartbeats 4000000 in
set_option maxRecDepth 100000 in
theorem rquoted_kw (s t low : ByteArray) (hz : low.size = t.size) (hM : MkC s t true) (hL : LoC t low) (hK : KwC low true) (w : World) : Calls Tryz.prog 51 #[.string s] w (RdRet (some { kind := 1, text := low }) w) := by
  obtain ⟨X, hX⟩ : ∃ X, w.alloc (.cells #[.int .u8 0, .string ⟨#[]⟩, .string ⟨#[]⟩, .bool false, .int .i64 0, .bool false, .bool false, .string ⟨#[]⟩] 46) = X := ⟨_, rfl⟩
  have HXB := Lib.hid (show Has X w.heap.size (.cells ({} : Src).cs 46) from hX ▸ Has.new w _)
  have HB0 := Lib.hid (show Below w.heap.size w X from hX ▸ bnew w _)
  have HM := Lib.hid hM
  have HL := Lib.hid hL
  clear hM hL
  have HK := Lib.hid hK
  clear hK
  go_enter Tryz.func51, Tryz.ntmps51
  go_wp2_with (first | (go_at_call 70; refine (HM.out _).mono ?_; rintro e w1 ⟨rfl, rfl⟩) | (go_at_call 41; refine (HL.out _).mono ?_; rintro e w2 ⟨rfl, hb2⟩) | (go_at_call 71; refine (HK.out _).mono ?_; rintro e w3 ⟨rfl, hb3⟩; have HXK := Lib.hid ((HXB.out.to hb2).to hb3); have HB2 := Lib.hid (HB0.out.trans ((hb2.trans (hb3.mono hb2.size)).mono HB0.out.size)); have z0 := HXK.out.cell 0 rfl; have z1 := HXK.out.cell 1 rfl; have z2 := HXK.out.cell 2 rfl; have z3 := HXK.out.cell 3 rfl; have z4 := HXK.out.cell 4 rfl; have z5 := HXK.out.cell 5 rfl; have z6 := HXK.out.cell 6 rfl; have z7 := HXK.out.cell 7 rfl; have f0 := HXK.out.free 0; have f1 := HXK.out.free 1; have f2 := HXK.out.free 2; have f3 := HXK.out.free 3; have f4 := HXK.out.free 4; have f5 := HXK.out.free 5; have f6 := HXK.out.free 6; have f7 := HXK.out.free 7; clear hb2 hb3))
  show bodyPost _ _ _ _ _ (st8 _ w.heap.size { kind := 1, text := low })
  exact bodyPost_ret (ret46 (p := 2) (t2 := 3) rfl _ _ w.heap.size { kind := 1, text := low } (.bool true) rfl rfl (st8_has (x := { kind := 1, text := low }) HXK.out)) rfl (src_done { kind := 1, text := low } true rfl HB2.out (fun y hy => Option.some.inj hy))
set_option maxHeartbeats 4000000 in
set_option maxRecDepth 100000 in
theorem rquoted_short (s t low : ByteArray) (hz : low.size = t.size) (hM : MkC s t true) (hL : LoC t low) (hK : KwC low false) (h6 : t.size ≤ 6) (w : World) : Calls Tryz.prog 51 #[.string s] w (RdRet (none) w) := by
  obtain ⟨X, hX⟩ : ∃ X, w.alloc (.cells #[.int .u8 0, .string ⟨#[]⟩, .string ⟨#[]⟩, .bool false, .int .i64 0, .bool false, .bool false, .string ⟨#[]⟩] 46) = X := ⟨_, rfl⟩
  have HXB := Lib.hid (show Has X w.heap.size (.cells ({} : Src).cs 46) from hX ▸ Has.new w _)
  have HB0 := Lib.hid (show Below w.heap.size w X from hX ▸ bnew w _)
  have HM := Lib.hid hM
  have HL := Lib.hid hL
  clear hM hL
  have HK := Lib.hid hK
  clear hK
  have a61 : ¬ (6 : Int) < (t.size : Int) := by omega
  have a62 : decide ((6 : Int) < (t.size : Int)) = false := decide_eq_false a61
  have a63 : decide (6 < t.size) = false := decide_eq_false (by omega)
  have a71 : ¬ (7 : Int) < (t.size : Int) := by omega
  have a72 : decide ((7 : Int) < (t.size : Int)) = false := decide_eq_false a71
  have a73 : decide (7 < t.size) = false := decide_eq_false (by omega)
  go_enter Tryz.func51, Tryz.ntmps51
  go_wp2_with (first | (go_at_call 70; refine (HM.out _).mono ?_; rintro e w1 ⟨rfl, rfl⟩) | (go_at_call 41; refine (HL.out _).mono ?_; rintro e w2 ⟨rfl, hb2⟩) | (go_at_call 71; refine (HK.out _).mono ?_; rintro e w3 ⟨rfl, hb3⟩; have HXK := Lib.hid ((HXB.out.to hb2).to hb3); have HB2 := Lib.hid (HB0.out.trans ((hb2.trans (hb3.mono hb2.size)).mono HB0.out.size)); have z0 := HXK.out.cell 0 rfl; have z1 := HXK.out.cell 1 rfl; have z2 := HXK.out.cell 2 rfl; have z3 := HXK.out.cell 3 rfl; have z4 := HXK.out.cell 4 rfl; have z5 := HXK.out.cell 5 rfl; have z6 := HXK.out.cell 6 rfl; have z7 := HXK.out.cell 7 rfl; have f0 := HXK.out.free 0; have f1 := HXK.out.free 1; have f2 := HXK.out.free 2; have f3 := HXK.out.free 3; have f4 := HXK.out.free 4; have f5 := HXK.out.free 5; have f6 := HXK.out.free 6; have f7 := HXK.out.free 7; clear hb2 hb3))
  show bodyPost _ _ _ _ _ (st8 _ w.heap.size {})
  exact bodyPost_ret (ret46 (p := 2) (t2 := 3) rfl _ _ w.heap.size {} (.bool false) rfl rfl (st8_has (x := {}) HXK.out)) rfl (src_done {} false rfl HB2.out (fun y hy => by cases hy))
set_option maxHeartbeats 4000000 in
set_option maxRecDepth 100000 in
theorem rquoted_nonce (s t low : ByteArray) (hz : low.size = t.size) (hM : MkC s t true) (hL : LoC t low) (hK : KwC low false) (h6 : 6 < t.size) (b6 : ((low.extract 0 6).toList == [110, 111, 110, 99, 101, 45]) = true) (hC : CoC (t.extract 6 t.size) true) (w : World) : Calls Tryz.prog 51 #[.string s] w (RdRet (some { kind := 2, text := t.extract 6 t.size }) w) := by
  obtain ⟨X, hX⟩ : ∃ X, w.alloc (.cells #[.int .u8 0, .string ⟨#[]⟩, .string ⟨#[]⟩, .bool false, .int .i64 0, .bool false, .bool false, .string ⟨#[]⟩] 46) = X := ⟨_, rfl⟩
  have HXB := Lib.hid (show Has X w.heap.size (.cells ({} : Src).cs 46) from hX ▸ Has.new w _)
  have HB0 := Lib.hid (show Below w.heap.size w X from hX ▸ bnew w _)
  have HM := Lib.hid hM
  have HL := Lib.hid hL
  clear hM hL
  have HK := Lib.hid hK
  clear hK
  have HC6 := Lib.hid hC
  clear hC
  have a61 : (6 : Int) < (t.size : Int) := by omega
  have a62 : decide ((6 : Int) < (t.size : Int)) = true := decide_eq_true a61
  have a63 : decide (6 < t.size) = true := decide_eq_true (by omega)
  have a64 : 6 ≤ t.size := by omega
  have a65 : (6 : Int) ≤ (t.size : Int) := by omega
  have a66 : 6 ≤ low.size := by omega
  have a67 : (6 : Int) ≤ (low.size : Int) := by omega
  go_enter Tryz.func51, Tryz.ntmps51
  go_wp2_with (first | (go_at_call 70; refine (HM.out _).mono ?_; rintro e w1 ⟨rfl, rfl⟩) | (go_at_call 41; refine (HL.out _).mono ?_; rintro e w2 ⟨rfl, hb2⟩) | (go_at_call 71; refine (HK.out _).mono ?_; rintro e w3 ⟨rfl, hb3⟩; have HXK := Lib.hid ((HXB.out.to hb2).to hb3); have HB2 := Lib.hid (HB0.out.trans ((hb2.trans (hb3.mono hb2.size)).mono HB0.out.size)); have z0 := HXK.out.cell 0 rfl; have z1 := HXK.out.cell 1 rfl; have z2 := HXK.out.cell 2 rfl; have z3 := HXK.out.cell 3 rfl; have z4 := HXK.out.cell 4 rfl; have z5 := HXK.out.cell 5 rfl; have z6 := HXK.out.cell 6 rfl; have z7 := HXK.out.cell 7 rfl; have f0 := HXK.out.free 0; have f1 := HXK.out.free 1; have f2 := HXK.out.free 2; have f3 := HXK.out.free 3; have f4 := HXK.out.free 4; have f5 := HXK.out.free 5; have f6 := HXK.out.free 6; have f7 := HXK.out.free 7; clear hb2 hb3) | (go_at_call 72; refine (HC6.out _).mono ?_; rintro e w4 ⟨rfl, rfl⟩))
  show bodyPost _ _ _ _ _ (st8 _ w.heap.size { kind := 2, text := t.extract 6 t.size })
  exact bodyPost_ret (ret46 (p := 2) (t2 := 3) rfl _ _ w.heap.size { kind := 2, text := t.extract 6 t.size } (.bool true) rfl rfl (st8_has (x := { kind := 2, text := t.extract 6 t.size }) HXK.out)) rfl (src_done { kind := 2, text := t.extract 6 t.size } true rfl HB2.out (fun y hy => Option.some.inj hy))
set_option maxHeartbeats 4000000 in
set_option maxRecDepth 100000 in
theorem rquoted_hash0 (s t low : ByteArray) (hz : low.size = t.size) (hM : MkC s t true) (hL : LoC t low) (hK : KwC low false) (h7 : 7 < t.size) (b6 : ((low.extract 0 6).toList == [110, 111, 110, 99, 101, 45]) = false) (b70 : ((low.extract 0 7).toList == [115, 104, 97, 50, 53, 54, 45]) = true) (hC : CoC (t.extract 7 t.size) true) (w : World) : Calls Tryz.prog 51 #[.string s] w (RdRet (some { kind := 3, text := t.extract 7 t.size, scheme := low.extract 0 6 }) w) := by
  obtain ⟨X, hX⟩ : ∃ X, w.alloc (.cells #[.int .u8 0, .string ⟨#[]⟩, .string ⟨#[]⟩, .bool false, .int .i64 0, .bool false, .bool false, .string ⟨#[]⟩] 46) = X := ⟨_, rfl⟩
  have HXB := Lib.hid (show Has X w.heap.size (.cells ({} : Src).cs 46) from hX ▸ Has.new w _)
  have HB0 := Lib.hid (show Below w.heap.size w X from hX ▸ bnew w _)
  have HM := Lib.hid hM
  have HL := Lib.hid hL
  clear hM hL
  have HK := Lib.hid hK
  clear hK
  have HC7 := Lib.hid hC
  clear hC
  have a61 : (6 : Int) < (t.size : Int) := by omega
  have a62 : decide ((6 : Int) < (t.size : Int)) = true := decide_eq_true a61
  have a63 : decide (6 < t.size) = true := decide_eq_true (by omega)
  have a64 : 6 ≤ t.size := by omega
  have a65 : (6 : Int) ≤ (t.size : Int) := by omega
  have a66 : 6 ≤ low.size := by omega
  have a67 : (6 : Int) ≤ (low.size : Int) := by omega
  have a71 : (7 : Int) < (t.size : Int) := by omega
  have a72 : decide ((7 : Int) < (t.size : Int)) = true := decide_eq_true a71
  have a73 : decide (7 < t.size) = true := decide_eq_true (by omega)
  have a74 : 7 ≤ t.size := by omega
  have a75 : (7 : Int) ≤ (t.size : Int) := by omega
  have a76 : 7 ≤ low.size := by omega
  have a77 : (7 : Int) ≤ (low.size : Int) := by omega
  go_enter Tryz.func51, Tryz.ntmps51
  go_wp2_with (first | (go_at_call 70; refine (HM.out _).mono ?_; rintro e w1 ⟨rfl, rfl⟩) | (go_at_call 41; refine (HL.out _).mono ?_; rintro e w2 ⟨rfl, hb2⟩) | (go_at_call 71; refine (HK.out _).mono ?_; rintro e w3 ⟨rfl, hb3⟩; have HXK := Lib.hid ((HXB.out.to hb2).to hb3); have HB2 := Lib.hid (HB0.out.trans ((hb2.trans (hb3.mono hb2.size)).mono HB0.out.size)); have z0 := HXK.out.cell 0 rfl; have z1 := HXK.out.cell 1 rfl; have z2 := HXK.out.cell 2 rfl; have z3 := HXK.out.cell 3 rfl; have z4 := HXK.out.cell 4 rfl; have z5 := HXK.out.cell 5 rfl; have z6 := HXK.out.cell 6 rfl; have z7 := HXK.out.cell 7 rfl; have f0 := HXK.out.free 0; have f1 := HXK.out.free 1; have f2 := HXK.out.free 2; have f3 := HXK.out.free 3; have f4 := HXK.out.free 4; have f5 := HXK.out.free 5; have f6 := HXK.out.free 6; have f7 := HXK.out.free 7; clear hb2 hb3) | (go_at_call 72; refine (HC7.out _).mono ?_; rintro e w5 ⟨rfl, rfl⟩))
  go_region
  go_wp2
  show bodyPost _ _ _ _ _ (st8 w5 w.heap.size { kind := 3, text := t.extract 7 t.size, scheme := low.extract 0 6 }).drew
  generalize hWW : (st8 w5 w.heap.size { kind := 3, text := t.extract 7 t.size, scheme := low.extract 0 6 }).drew = WW
  refine bodyPost_ret (ret46 (p := 2) (t2 := 3) rfl _ WW w.heap.size { kind := 3, text := t.extract 7 t.size, scheme := low.extract 0 6 } (.bool true) rfl rfl ?_) rfl ?_
  · rw [← hWW]; exact has_drew (st8_has (x := { kind := 3, text := t.extract 7 t.size, scheme := low.extract 0 6 }) HXK.out)
  · rw [← hWW]; exact ⟨⟨{ kind := 3, text := t.extract 7 t.size, scheme := low.extract 0 6 }, rfl, fun y hy => Option.some.inj hy⟩, (st8_below { kind := 3, text := t.extract 7 t.size, scheme := low.extract 0 6 } HB2.out (Nat.le_refl _)).drew⟩
set_option maxHeartbeats 4000000 in
set_option maxRecDepth 100000 in
theorem rquoted_hno0 (s t low : ByteArray) (hz : low.size = t.size) (hM : MkC s t true) (hL : LoC t low) (hK : KwC low false) (h7 : 7 < t.size) (b6 : ((low.extract 0 6).toList == [110, 111, 110, 99, 101, 45]) = false) (b70 : ((low.extract 0 7).toList == [115, 104, 97, 50, 53, 54, 45]) = true) (hC : CoC (t.extract 7 t.size) false) (w : World) : Calls Tryz.prog 51 #[.string s] w (RdRet (none) w) := by
  obtain ⟨X, hX⟩ : ∃ X, w.alloc (.cells #[.int .u8 0, .string ⟨#[]⟩, .string ⟨#[]⟩, .bool false, .int .i64 0, .bool false, .bool false, .string ⟨#[]⟩] 46) = X := ⟨_, rfl⟩
  have HXB := Lib.hid (show Has X w.heap.size (.cells ({} : Src).cs 46) from hX ▸ Has.new w _)
  have HB0 := Lib.hid (show Below w.heap.size w X from hX ▸ bnew w _)
  have HM := Lib.hid hM
  have HL := Lib.hid hL
  clear hM hL
  have HK := Lib.hid hK
  clear hK
  have HC7 := Lib.hid hC
  clear hC
  have a61 : (6 : Int) < (t.size : Int) := by omega
  have a62 : decide ((6 : Int) < (t.size : Int)) = true := decide_eq_true a61
  have a63 : decide (6 < t.size) = true := decide_eq_true (by omega)
  have a64 : 6 ≤ t.size := by omega
  have a65 : (6 : Int) ≤ (t.size : Int) := by omega
  have a66 : 6 ≤ low.size := by omega
  have a67 : (6 : Int) ≤ (low.size : Int) := by omega
  have a71 : (7 : Int) < (t.size : Int) := by omega
  have a72 : decide ((7 : Int) < (t.size : Int)) = true := decide_eq_true a71
  have a73 : decide (7 < t.size) = true := decide_eq_true (by omega)
  have a74 : 7 ≤ t.size := by omega
  have a75 : (7 : Int) ≤ (t.size : Int) := by omega
  have a76 : 7 ≤ low.size := by omega
  have a77 : (7 : Int) ≤ (low.size : Int) := by omega
  go_enter Tryz.func51, Tryz.ntmps51
  go_wp2_with (first | (go_at_call 70; refine (HM.out _).mono ?_; rintro e w1 ⟨rfl, rfl⟩) | (go_at_call 41; refine (HL.out _).mono ?_; rintro e w2 ⟨rfl, hb2⟩) | (go_at_call 71; refine (HK.out _).mono ?_; rintro e w3 ⟨rfl, hb3⟩; have HXK := Lib.hid ((HXB.out.to hb2).to hb3); have HB2 := Lib.hid (HB0.out.trans ((hb2.trans (hb3.mono hb2.size)).mono HB0.out.size)); have z0 := HXK.out.cell 0 rfl; have z1 := HXK.out.cell 1 rfl; have z2 := HXK.out.cell 2 rfl; have z3 := HXK.out.cell 3 rfl; have z4 := HXK.out.cell 4 rfl; have z5 := HXK.out.cell 5 rfl; have z6 := HXK.out.cell 6 rfl; have z7 := HXK.out.cell 7 rfl; have f0 := HXK.out.free 0; have f1 := HXK.out.free 1; have f2 := HXK.out.free 2; have f3 := HXK.out.free 3; have f4 := HXK.out.free 4; have f5 := HXK.out.free 5; have f6 := HXK.out.free 6; have f7 := HXK.out.free 7; clear hb2 hb3) | (go_at_call 72; refine (HC7.out _).mono ?_; rintro e w5 ⟨rfl, rfl⟩))
  show bodyPost _ _ _ _ _ (st8 _ w.heap.size {})
  exact bodyPost_ret (ret46 (p := 2) (t2 := 3) rfl _ _ w.heap.size {} (.bool false) rfl rfl (st8_has (x := {}) HXK.out)) rfl (src_done {} false rfl HB2.out (fun y hy => by cases hy))
set_option maxHeartbeats 4000000 in
set_option maxRecDepth 100000 in
theorem rquoted_hash1 (s t low : ByteArray) (hz : low.size = t.size) (hM : MkC s t true) (hL : LoC t low) (hK : KwC low false) (h7 : 7 < t.size) (b6 : ((low.extract 0 6).toList == [110, 111, 110, 99, 101, 45]) = false) (b70 : ((low.extract 0 7).toList == [115, 104, 97, 50, 53, 54, 45]) = false) (b71 : ((low.extract 0 7).toList == [115, 104, 97, 51, 56, 52, 45]) = true) (hC : CoC (t.extract 7 t.size) true) (w : World) : Calls Tryz.prog 51 #[.string s] w (RdRet (some { kind := 3, text := t.extract 7 t.size, scheme := low.extract 0 6 }) w) := by
  obtain ⟨X, hX⟩ : ∃ X, w.alloc (.cells #[.int .u8 0, .string ⟨#[]⟩, .string ⟨#[]⟩, .bool false, .int .i64 0, .bool false, .bool false, .string ⟨#[]⟩] 46) = X := ⟨_, rfl⟩
  have HXB := Lib.hid (show Has X w.heap.size (.cells ({} : Src).cs 46) from hX ▸ Has.new w _)
  have HB0 := Lib.hid (show Below w.heap.size w X from hX ▸ bnew w _)
  have HM := Lib.hid hM
  have HL := Lib.hid hL
  clear hM hL
  have HK := Lib.hid hK
  clear hK
  have HC7 := Lib.hid hC
  clear hC
  have a61 : (6 : Int) < (t.size : Int) := by omega
  have a62 : decide ((6 : Int) < (t.size : Int)) = true := decide_eq_true a61
  have a63 : decide (6 < t.size) = true := decide_eq_true (by omega)
  have a64 : 6 ≤ t.size := by omega
  have a65 : (6 : Int) ≤ (t.size : Int) := by omega
  have a66 : 6 ≤ low.size := by omega
  have a67 : (6 : Int) ≤ (low.size : Int) := by omega
  have a71 : (7 : Int) < (t.size : Int) := by omega
  have a72 : decide ((7 : Int) < (t.size : Int)) = true := decide_eq_true a71
  have a73 : decide (7 < t.size) = true := decide_eq_true (by omega)
  have a74 : 7 ≤ t.size := by omega
  have a75 : (7 : Int) ≤ (t.size : Int) := by omega
  have a76 : 7 ≤ low.size := by omega
  have a77 : (7 : Int) ≤ (low.size : Int) := by omega
  go_enter Tryz.func51, Tryz.ntmps51
  go_wp2_with (first | (go_at_call 70; refine (HM.out _).mono ?_; rintro e w1 ⟨rfl, rfl⟩) | (go_at_call 41; refine (HL.out _).mono ?_; rintro e w2 ⟨rfl, hb2⟩) | (go_at_call 71; refine (HK.out _).mono ?_; rintro e w3 ⟨rfl, hb3⟩; have HXK := Lib.hid ((HXB.out.to hb2).to hb3); have HB2 := Lib.hid (HB0.out.trans ((hb2.trans (hb3.mono hb2.size)).mono HB0.out.size)); have z0 := HXK.out.cell 0 rfl; have z1 := HXK.out.cell 1 rfl; have z2 := HXK.out.cell 2 rfl; have z3 := HXK.out.cell 3 rfl; have z4 := HXK.out.cell 4 rfl; have z5 := HXK.out.cell 5 rfl; have z6 := HXK.out.cell 6 rfl; have z7 := HXK.out.cell 7 rfl; have f0 := HXK.out.free 0; have f1 := HXK.out.free 1; have f2 := HXK.out.free 2; have f3 := HXK.out.free 3; have f4 := HXK.out.free 4; have f5 := HXK.out.free 5; have f6 := HXK.out.free 6; have f7 := HXK.out.free 7; clear hb2 hb3) | (go_at_call 72; refine (HC7.out _).mono ?_; rintro e w5 ⟨rfl, rfl⟩))
  go_region
  go_wp2
  show bodyPost _ _ _ _ _ (st8 w5 w.heap.size { kind := 3, text := t.extract 7 t.size, scheme := low.extract 0 6 }).drew
  generalize hWW : (st8 w5 w.heap.size { kind := 3, text := t.extract 7 t.size, scheme := low.extract 0 6 }).drew = WW
  refine bodyPost_ret (ret46 (p := 2) (t2 := 3) rfl _ WW w.heap.size { kind := 3, text := t.extract 7 t.size, scheme := low.extract 0 6 } (.bool true) rfl rfl ?_) rfl ?_
  · rw [← hWW]; exact has_drew (st8_has (x := { kind := 3, text := t.extract 7 t.size, scheme := low.extract 0 6 }) HXK.out)
  · rw [← hWW]; exact ⟨⟨{ kind := 3, text := t.extract 7 t.size, scheme := low.extract 0 6 }, rfl, fun y hy => Option.some.inj hy⟩, (st8_below { kind := 3, text := t.extract 7 t.size, scheme := low.extract 0 6 } HB2.out (Nat.le_refl _)).drew⟩
set_option maxHeartbeats 4000000 in
set_option maxRecDepth 100000 in
theorem rquoted_hno1 (s t low : ByteArray) (hz : low.size = t.size) (hM : MkC s t true) (hL : LoC t low) (hK : KwC low false) (h7 : 7 < t.size) (b6 : ((low.extract 0 6).toList == [110, 111, 110, 99, 101, 45]) = false) (b70 : ((low.extract 0 7).toList == [115, 104, 97, 50, 53, 54, 45]) = false) (b71 : ((low.extract 0 7).toList == [115, 104, 97, 51, 56, 52, 45]) = true) (hC : CoC (t.extract 7 t.size) false) (w : World) : Calls Tryz.prog 51 #[.string s] w (RdRet (none) w) := by
  obtain ⟨X, hX⟩ : ∃ X, w.alloc (.cells #[.int .u8 0, .string ⟨#[]⟩, .string ⟨#[]⟩, .bool false, .int .i64 0, .bool false, .bool false, .string ⟨#[]⟩] 46) = X := ⟨_, rfl⟩
  have HXB := Lib.hid (show Has X w.heap.size (.cells ({} : Src).cs 46) from hX ▸ Has.new w _)
  have HB0 := Lib.hid (show Below w.heap.size w X from hX ▸ bnew w _)
  have HM := Lib.hid hM
  have HL := Lib.hid hL
  clear hM hL
  have HK := Lib.hid hK
  clear hK
  have HC7 := Lib.hid hC
  clear hC
  have a61 : (6 : Int) < (t.size : Int) := by omega
  have a62 : decide ((6 : Int) < (t.size : Int)) = true := decide_eq_true a61
  have a63 : decide (6 < t.size) = true := decide_eq_true (by omega)
  have a64 : 6 ≤ t.size := by omega
  have a65 : (6 : Int) ≤ (t.size : Int) := by omega
  have a66 : 6 ≤ low.size := by omega
  have a67 : (6 : Int) ≤ (low.size : Int) := by omega
  have a71 : (7 : Int) < (t.size : Int) := by omega
  have a72 : decide ((7 : Int) < (t.size : Int)) = true := decide_eq_true a71
  have a73 : decide (7 < t.size) = true := decide_eq_true (by omega)
  have a74 : 7 ≤ t.size := by omega
  have a75 : (7 : Int) ≤ (t.size : Int) := by omega
  have a76 : 7 ≤ low.size := by omega
  have a77 : (7 : Int) ≤ (low.size : Int) := by omega
  go_enter Tryz.func51, Tryz.ntmps51
  go_wp2_with (first | (go_at_call 70; refine (HM.out _).mono ?_; rintro e w1 ⟨rfl, rfl⟩) | (go_at_call 41; refine (HL.out _).mono ?_; rintro e w2 ⟨rfl, hb2⟩) | (go_at_call 71; refine (HK.out _).mono ?_; rintro e w3 ⟨rfl, hb3⟩; have HXK := Lib.hid ((HXB.out.to hb2).to hb3); have HB2 := Lib.hid (HB0.out.trans ((hb2.trans (hb3.mono hb2.size)).mono HB0.out.size)); have z0 := HXK.out.cell 0 rfl; have z1 := HXK.out.cell 1 rfl; have z2 := HXK.out.cell 2 rfl; have z3 := HXK.out.cell 3 rfl; have z4 := HXK.out.cell 4 rfl; have z5 := HXK.out.cell 5 rfl; have z6 := HXK.out.cell 6 rfl; have z7 := HXK.out.cell 7 rfl; have f0 := HXK.out.free 0; have f1 := HXK.out.free 1; have f2 := HXK.out.free 2; have f3 := HXK.out.free 3; have f4 := HXK.out.free 4; have f5 := HXK.out.free 5; have f6 := HXK.out.free 6; have f7 := HXK.out.free 7; clear hb2 hb3) | (go_at_call 72; refine (HC7.out _).mono ?_; rintro e w5 ⟨rfl, rfl⟩))
  show bodyPost _ _ _ _ _ (st8 _ w.heap.size {})
  exact bodyPost_ret (ret46 (p := 2) (t2 := 3) rfl _ _ w.heap.size {} (.bool false) rfl rfl (st8_has (x := {}) HXK.out)) rfl (src_done {} false rfl HB2.out (fun y hy => by cases hy))
set_option maxHeartbeats 4000000 in
set_option maxRecDepth 100000 in
theorem rquoted_hash2 (s t low : ByteArray) (hz : low.size = t.size) (hM : MkC s t true) (hL : LoC t low) (hK : KwC low false) (h7 : 7 < t.size) (b6 : ((low.extract 0 6).toList == [110, 111, 110, 99, 101, 45]) = false) (b70 : ((low.extract 0 7).toList == [115, 104, 97, 50, 53, 54, 45]) = false) (b71 : ((low.extract 0 7).toList == [115, 104, 97, 51, 56, 52, 45]) = false) (b72 : ((low.extract 0 7).toList == [115, 104, 97, 53, 49, 50, 45]) = true) (hC : CoC (t.extract 7 t.size) true) (w : World) : Calls Tryz.prog 51 #[.string s] w (RdRet (some { kind := 3, text := t.extract 7 t.size, scheme := low.extract 0 6 }) w) := by
  obtain ⟨X, hX⟩ : ∃ X, w.alloc (.cells #[.int .u8 0, .string ⟨#[]⟩, .string ⟨#[]⟩, .bool false, .int .i64 0, .bool false, .bool false, .string ⟨#[]⟩] 46) = X := ⟨_, rfl⟩
  have HXB := Lib.hid (show Has X w.heap.size (.cells ({} : Src).cs 46) from hX ▸ Has.new w _)
  have HB0 := Lib.hid (show Below w.heap.size w X from hX ▸ bnew w _)
  have HM := Lib.hid hM
  have HL := Lib.hid hL
  clear hM hL
  have HK := Lib.hid hK
  clear hK
  have HC7 := Lib.hid hC
  clear hC
  have a61 : (6 : Int) < (t.size : Int) := by omega
  have a62 : decide ((6 : Int) < (t.size : Int)) = true := decide_eq_true a61
  have a63 : decide (6 < t.size) = true := decide_eq_true (by omega)
  have a64 : 6 ≤ t.size := by omega
  have a65 : (6 : Int) ≤ (t.size : Int) := by omega
  have a66 : 6 ≤ low.size := by omega
  have a67 : (6 : Int) ≤ (low.size : Int) := by omega
  have a71 : (7 : Int) < (t.size : Int) := by omega
  have a72 : decide ((7 : Int) < (t.size : Int)) = true := decide_eq_true a71
  have a73 : decide (7 < t.size) = true := decide_eq_true (by omega)
  have a74 : 7 ≤ t.size := by omega
  have a75 : (7 : Int) ≤ (t.size : Int) := by omega
  have a76 : 7 ≤ low.size := by omega
  have a77 : (7 : Int) ≤ (low.size : Int) := by omega
  go_enter Tryz.func51, Tryz.ntmps51
  go_wp2_with (first | (go_at_call 70; refine (HM.out _).mono ?_; rintro e w1 ⟨rfl, rfl⟩) | (go_at_call 41; refine (HL.out _).mono ?_; rintro e w2 ⟨rfl, hb2⟩) | (go_at_call 71; refine (HK.out _).mono ?_; rintro e w3 ⟨rfl, hb3⟩; have HXK := Lib.hid ((HXB.out.to hb2).to hb3); have HB2 := Lib.hid (HB0.out.trans ((hb2.trans (hb3.mono hb2.size)).mono HB0.out.size)); have z0 := HXK.out.cell 0 rfl; have z1 := HXK.out.cell 1 rfl; have z2 := HXK.out.cell 2 rfl; have z3 := HXK.out.cell 3 rfl; have z4 := HXK.out.cell 4 rfl; have z5 := HXK.out.cell 5 rfl; have z6 := HXK.out.cell 6 rfl; have z7 := HXK.out.cell 7 rfl; have f0 := HXK.out.free 0; have f1 := HXK.out.free 1; have f2 := HXK.out.free 2; have f3 := HXK.out.free 3; have f4 := HXK.out.free 4; have f5 := HXK.out.free 5; have f6 := HXK.out.free 6; have f7 := HXK.out.free 7; clear hb2 hb3) | (go_at_call 72; refine (HC7.out _).mono ?_; rintro e w5 ⟨rfl, rfl⟩))
  go_region
  go_wp2
  show bodyPost _ _ _ _ _ (st8 w5 w.heap.size { kind := 3, text := t.extract 7 t.size, scheme := low.extract 0 6 }).drew
  generalize hWW : (st8 w5 w.heap.size { kind := 3, text := t.extract 7 t.size, scheme := low.extract 0 6 }).drew = WW
  refine bodyPost_ret (ret46 (p := 2) (t2 := 3) rfl _ WW w.heap.size { kind := 3, text := t.extract 7 t.size, scheme := low.extract 0 6 } (.bool true) rfl rfl ?_) rfl ?_
  · rw [← hWW]; exact has_drew (st8_has (x := { kind := 3, text := t.extract 7 t.size, scheme := low.extract 0 6 }) HXK.out)
  · rw [← hWW]; exact ⟨⟨{ kind := 3, text := t.extract 7 t.size, scheme := low.extract 0 6 }, rfl, fun y hy => Option.some.inj hy⟩, (st8_below { kind := 3, text := t.extract 7 t.size, scheme := low.extract 0 6 } HB2.out (Nat.le_refl _)).drew⟩
set_option maxHeartbeats 4000000 in
set_option maxRecDepth 100000 in
theorem rquoted_hno2 (s t low : ByteArray) (hz : low.size = t.size) (hM : MkC s t true) (hL : LoC t low) (hK : KwC low false) (h7 : 7 < t.size) (b6 : ((low.extract 0 6).toList == [110, 111, 110, 99, 101, 45]) = false) (b70 : ((low.extract 0 7).toList == [115, 104, 97, 50, 53, 54, 45]) = false) (b71 : ((low.extract 0 7).toList == [115, 104, 97, 51, 56, 52, 45]) = false) (b72 : ((low.extract 0 7).toList == [115, 104, 97, 53, 49, 50, 45]) = true) (hC : CoC (t.extract 7 t.size) false) (w : World) : Calls Tryz.prog 51 #[.string s] w (RdRet (none) w) := by
  obtain ⟨X, hX⟩ : ∃ X, w.alloc (.cells #[.int .u8 0, .string ⟨#[]⟩, .string ⟨#[]⟩, .bool false, .int .i64 0, .bool false, .bool false, .string ⟨#[]⟩] 46) = X := ⟨_, rfl⟩
  have HXB := Lib.hid (show Has X w.heap.size (.cells ({} : Src).cs 46) from hX ▸ Has.new w _)
  have HB0 := Lib.hid (show Below w.heap.size w X from hX ▸ bnew w _)
  have HM := Lib.hid hM
  have HL := Lib.hid hL
  clear hM hL
  have HK := Lib.hid hK
  clear hK
  have HC7 := Lib.hid hC
  clear hC
  have a61 : (6 : Int) < (t.size : Int) := by omega
  have a62 : decide ((6 : Int) < (t.size : Int)) = true := decide_eq_true a61
  have a63 : decide (6 < t.size) = true := decide_eq_true (by omega)
  have a64 : 6 ≤ t.size := by omega
  have a65 : (6 : Int) ≤ (t.size : Int) := by omega
  have a66 : 6 ≤ low.size := by omega
  have a67 : (6 : Int) ≤ (low.size : Int) := by omega
  have a71 : (7 : Int) < (t.size : Int) := by omega
  have a72 : decide ((7 : Int) < (t.size : Int)) = true := decide_eq_true a71
  have a73 : decide (7 < t.size) = true := decide_eq_true (by omega)
  have a74 : 7 ≤ t.size := by omega
  have a75 : (7 : Int) ≤ (t.size : Int) := by omega
  have a76 : 7 ≤ low.size := by omega
  have a77 : (7 : Int) ≤ (low.size : Int) := by omega
  go_enter Tryz.func51, Tryz.ntmps51
  go_wp2_with (first | (go_at_call 70; refine (HM.out _).mono ?_; rintro e w1 ⟨rfl, rfl⟩) | (go_at_call 41; refine (HL.out _).mono ?_; rintro e w2 ⟨rfl, hb2⟩) | (go_at_call 71; refine (HK.out _).mono ?_; rintro e w3 ⟨rfl, hb3⟩; have HXK := Lib.hid ((HXB.out.to hb2).to hb3); have HB2 := Lib.hid (HB0.out.trans ((hb2.trans (hb3.mono hb2.size)).mono HB0.out.size)); have z0 := HXK.out.cell 0 rfl; have z1 := HXK.out.cell 1 rfl; have z2 := HXK.out.cell 2 rfl; have z3 := HXK.out.cell 3 rfl; have z4 := HXK.out.cell 4 rfl; have z5 := HXK.out.cell 5 rfl; have z6 := HXK.out.cell 6 rfl; have z7 := HXK.out.cell 7 rfl; have f0 := HXK.out.free 0; have f1 := HXK.out.free 1; have f2 := HXK.out.free 2; have f3 := HXK.out.free 3; have f4 := HXK.out.free 4; have f5 := HXK.out.free 5; have f6 := HXK.out.free 6; have f7 := HXK.out.free 7; clear hb2 hb3) | (go_at_call 72; refine (HC7.out _).mono ?_; rintro e w5 ⟨rfl, rfl⟩))
  show bodyPost _ _ _ _ _ (st8 _ w.heap.size {})
  exact bodyPost_ret (ret46 (p := 2) (t2 := 3) rfl _ _ w.heap.size {} (.bool false) rfl rfl (st8_has (x := {}) HXK.out)) rfl (src_done {} false rfl HB2.out (fun y hy => by cases hy))
set_option maxHeartbeats 4000000 in
set_option maxRecDepth 100000 in
theorem rquoted_sev_false (s t low : ByteArray) (hz : low.size = t.size) (hM : MkC s t true) (hL : LoC t low) (hK : KwC low false) (h6 : 6 < t.size) (h7 : t.size ≤ 7) (b6 : ((low.extract 0 6).toList == [110, 111, 110, 99, 101, 45]) = false) (w : World) : Calls Tryz.prog 51 #[.string s] w (RdRet (none) w) := by
  obtain ⟨X, hX⟩ : ∃ X, w.alloc (.cells #[.int .u8 0, .string ⟨#[]⟩, .string ⟨#[]⟩, .bool false, .int .i64 0, .bool false, .bool false, .string ⟨#[]⟩] 46) = X := ⟨_, rfl⟩
  have HXB := Lib.hid (show Has X w.heap.size (.cells ({} : Src).cs 46) from hX ▸ Has.new w _)
  have HB0 := Lib.hid (show Below w.heap.size w X from hX ▸ bnew w _)
  have HM := Lib.hid hM
  have HL := Lib.hid hL
  clear hM hL
  have HK := Lib.hid hK
  clear hK
  have a61 : (6 : Int) < (t.size : Int) := by omega
  have a62 : decide ((6 : Int) < (t.size : Int)) = true := decide_eq_true a61
  have a63 : decide (6 < t.size) = true := decide_eq_true (by omega)
  have a64 : 6 ≤ t.size := by omega
  have a65 : (6 : Int) ≤ (t.size : Int) := by omega
  have a66 : 6 ≤ low.size := by omega
  have a67 : (6 : Int) ≤ (low.size : Int) := by omega
  have a71 : ¬ (7 : Int) < (t.size : Int) := by omega
  have a72 : decide ((7 : Int) < (t.size : Int)) = false := decide_eq_false a71
  have a73 : decide (7 < t.size) = false := decide_eq_false (by omega)
  go_enter Tryz.func51, Tryz.ntmps51
  go_wp2_with (first | (go_at_call 70; refine (HM.out _).mono ?_; rintro e w1 ⟨rfl, rfl⟩) | (go_at_call 41; refine (HL.out _).mono ?_; rintro e w2 ⟨rfl, hb2⟩) | (go_at_call 71; refine (HK.out _).mono ?_; rintro e w3 ⟨rfl, hb3⟩; have HXK := Lib.hid ((HXB.out.to hb2).to hb3); have HB2 := Lib.hid (HB0.out.trans ((hb2.trans (hb3.mono hb2.size)).mono HB0.out.size)); have z0 := HXK.out.cell 0 rfl; have z1 := HXK.out.cell 1 rfl; have z2 := HXK.out.cell 2 rfl; have z3 := HXK.out.cell 3 rfl; have z4 := HXK.out.cell 4 rfl; have z5 := HXK.out.cell 5 rfl; have z6 := HXK.out.cell 6 rfl; have z7 := HXK.out.cell 7 rfl; have f0 := HXK.out.free 0; have f1 := HXK.out.free 1; have f2 := HXK.out.free 2; have f3 := HXK.out.free 3; have f4 := HXK.out.free 4; have f5 := HXK.out.free 5; have f6 := HXK.out.free 6; have f7 := HXK.out.free 7; clear hb2 hb3))
  show bodyPost _ _ _ _ _ (st8 _ w.heap.size {})
  exact bodyPost_ret (ret46 (p := 2) (t2 := 3) rfl _ _ w.heap.size {} (.bool false) rfl rfl (st8_has (x := {}) HXK.out)) rfl (src_done {} false rfl HB2.out (fun y hy => by cases hy))
set_option maxHeartbeats 4000000 in
set_option maxRecDepth 100000 in
theorem rquoted_miss_false (s t low : ByteArray) (hz : low.size = t.size) (hM : MkC s t true) (hL : LoC t low) (hK : KwC low false) (h7 : 7 < t.size) (b6 : ((low.extract 0 6).toList == [110, 111, 110, 99, 101, 45]) = false) (b70 : ((low.extract 0 7).toList == [115, 104, 97, 50, 53, 54, 45]) = false) (b71 : ((low.extract 0 7).toList == [115, 104, 97, 51, 56, 52, 45]) = false) (b72 : ((low.extract 0 7).toList == [115, 104, 97, 53, 49, 50, 45]) = false) (w : World) : Calls Tryz.prog 51 #[.string s] w (RdRet (none) w) := by
  obtain ⟨X, hX⟩ : ∃ X, w.alloc (.cells #[.int .u8 0, .string ⟨#[]⟩, .string ⟨#[]⟩, .bool false, .int .i64 0, .bool false, .bool false, .string ⟨#[]⟩] 46) = X := ⟨_, rfl⟩
  have HXB := Lib.hid (show Has X w.heap.size (.cells ({} : Src).cs 46) from hX ▸ Has.new w _)
  have HB0 := Lib.hid (show Below w.heap.size w X from hX ▸ bnew w _)
  have HM := Lib.hid hM
  have HL := Lib.hid hL
  clear hM hL
  have HK := Lib.hid hK
  clear hK
  have a61 : (6 : Int) < (t.size : Int) := by omega
  have a62 : decide ((6 : Int) < (t.size : Int)) = true := decide_eq_true a61
  have a63 : decide (6 < t.size) = true := decide_eq_true (by omega)
  have a64 : 6 ≤ t.size := by omega
  have a65 : (6 : Int) ≤ (t.size : Int) := by omega
  have a66 : 6 ≤ low.size := by omega
  have a67 : (6 : Int) ≤ (low.size : Int) := by omega
  have a71 : (7 : Int) < (t.size : Int) := by omega
  have a72 : decide ((7 : Int) < (t.size : Int)) = true := decide_eq_true a71
  have a73 : decide (7 < t.size) = true := decide_eq_true (by omega)
  have a74 : 7 ≤ t.size := by omega
  have a75 : (7 : Int) ≤ (t.size : Int) := by omega
  have a76 : 7 ≤ low.size := by omega
  have a77 : (7 : Int) ≤ (low.size : Int) := by omega
  go_enter Tryz.func51, Tryz.ntmps51
  go_wp2_with (first | (go_at_call 70; refine (HM.out _).mono ?_; rintro e w1 ⟨rfl, rfl⟩) | (go_at_call 41; refine (HL.out _).mono ?_; rintro e w2 ⟨rfl, hb2⟩) | (go_at_call 71; refine (HK.out _).mono ?_; rintro e w3 ⟨rfl, hb3⟩; have HXK := Lib.hid ((HXB.out.to hb2).to hb3); have HB2 := Lib.hid (HB0.out.trans ((hb2.trans (hb3.mono hb2.size)).mono HB0.out.size)); have z0 := HXK.out.cell 0 rfl; have z1 := HXK.out.cell 1 rfl; have z2 := HXK.out.cell 2 rfl; have z3 := HXK.out.cell 3 rfl; have z4 := HXK.out.cell 4 rfl; have z5 := HXK.out.cell 5 rfl; have z6 := HXK.out.cell 6 rfl; have z7 := HXK.out.cell 7 rfl; have f0 := HXK.out.free 0; have f1 := HXK.out.free 1; have f2 := HXK.out.free 2; have f3 := HXK.out.free 3; have f4 := HXK.out.free 4; have f5 := HXK.out.free 5; have f6 := HXK.out.free 6; have f7 := HXK.out.free 7; clear hb2 hb3))
  show bodyPost _ _ _ _ _ (st8 _ w.heap.size {})
  exact bodyPost_ret (ret46 (p := 2) (t2 := 3) rfl _ _ w.heap.size {} (.bool false) rfl rfl (st8_has (x := {}) HXK.out)) rfl (src_done {} false rfl HB2.out (fun y hy => by cases hy))
set_option maxHeartbeats 4000000 in
set_option maxRecDepth 100000 in
theorem rquoted_sev_true (s t low : ByteArray) (hz : low.size = t.size) (hM : MkC s t true) (hL : LoC t low) (hK : KwC low false) (h6 : 6 < t.size) (h7 : t.size ≤ 7) (b6 : ((low.extract 0 6).toList == [110, 111, 110, 99, 101, 45]) = true) (hC : CoC (t.extract 6 t.size) false) (w : World) : Calls Tryz.prog 51 #[.string s] w (RdRet (none) w) := by
  obtain ⟨X, hX⟩ : ∃ X, w.alloc (.cells #[.int .u8 0, .string ⟨#[]⟩, .string ⟨#[]⟩, .bool false, .int .i64 0, .bool false, .bool false, .string ⟨#[]⟩] 46) = X := ⟨_, rfl⟩
  have HXB := Lib.hid (show Has X w.heap.size (.cells ({} : Src).cs 46) from hX ▸ Has.new w _)
  have HB0 := Lib.hid (show Below w.heap.size w X from hX ▸ bnew w _)
  have HM := Lib.hid hM
  have HL := Lib.hid hL
  clear hM hL
  have HK := Lib.hid hK
  clear hK
  have HC6 := Lib.hid hC
  clear hC
  have a61 : (6 : Int) < (t.size : Int) := by omega
  have a62 : decide ((6 : Int) < (t.size : Int)) = true := decide_eq_true a61
  have a63 : decide (6 < t.size) = true := decide_eq_true (by omega)
  have a64 : 6 ≤ t.size := by omega
  have a65 : (6 : Int) ≤ (t.size : Int) := by omega
  have a66 : 6 ≤ low.size := by omega
  have a67 : (6 : Int) ≤ (low.size : Int) := by omega
  have a71 : ¬ (7 : Int) < (t.size : Int) := by omega
  have a72 : decide ((7 : Int) < (t.size : Int)) = false := decide_eq_false a71
  have a73 : decide (7 < t.size) = false := decide_eq_false (by omega)
  go_enter Tryz.func51, Tryz.ntmps51
  go_wp2_with (first | (go_at_call 70; refine (HM.out _).mono ?_; rintro e w1 ⟨rfl, rfl⟩) | (go_at_call 41; refine (HL.out _).mono ?_; rintro e w2 ⟨rfl, hb2⟩) | (go_at_call 71; refine (HK.out _).mono ?_; rintro e w3 ⟨rfl, hb3⟩; have HXK := Lib.hid ((HXB.out.to hb2).to hb3); have HB2 := Lib.hid (HB0.out.trans ((hb2.trans (hb3.mono hb2.size)).mono HB0.out.size)); have z0 := HXK.out.cell 0 rfl; have z1 := HXK.out.cell 1 rfl; have z2 := HXK.out.cell 2 rfl; have z3 := HXK.out.cell 3 rfl; have z4 := HXK.out.cell 4 rfl; have z5 := HXK.out.cell 5 rfl; have z6 := HXK.out.cell 6 rfl; have z7 := HXK.out.cell 7 rfl; have f0 := HXK.out.free 0; have f1 := HXK.out.free 1; have f2 := HXK.out.free 2; have f3 := HXK.out.free 3; have f4 := HXK.out.free 4; have f5 := HXK.out.free 5; have f6 := HXK.out.free 6; have f7 := HXK.out.free 7; clear hb2 hb3) | (go_at_call 72; refine (HC6.out _).mono ?_; rintro e w4 ⟨rfl, rfl⟩))
  show bodyPost _ _ _ _ _ (st8 _ w.heap.size {})
  exact bodyPost_ret (ret46 (p := 2) (t2 := 3) rfl _ _ w.heap.size {} (.bool false) rfl rfl (st8_has (x := {}) HXK.out)) rfl (src_done {} false rfl HB2.out (fun y hy => by cases hy))
set_option maxHeartbeats 4000000 in
set_option maxRecDepth 100000 in
theorem rquoted_miss_true (s t low : ByteArray) (hz : low.size = t.size) (hM : MkC s t true) (hL : LoC t low) (hK : KwC low false) (h7 : 7 < t.size) (b6 : ((low.extract 0 6).toList == [110, 111, 110, 99, 101, 45]) = true) (b70 : ((low.extract 0 7).toList == [115, 104, 97, 50, 53, 54, 45]) = false) (b71 : ((low.extract 0 7).toList == [115, 104, 97, 51, 56, 52, 45]) = false) (b72 : ((low.extract 0 7).toList == [115, 104, 97, 53, 49, 50, 45]) = false) (hC : CoC (t.extract 6 t.size) false) (w : World) : Calls Tryz.prog 51 #[.string s] w (RdRet (none) w) := by
  obtain ⟨X, hX⟩ : ∃ X, w.alloc (.cells #[.int .u8 0, .string ⟨#[]⟩, .string ⟨#[]⟩, .bool false, .int .i64 0, .bool false, .bool false, .string ⟨#[]⟩] 46) = X := ⟨_, rfl⟩
  have HXB := Lib.hid (show Has X w.heap.size (.cells ({} : Src).cs 46) from hX ▸ Has.new w _)
  have HB0 := Lib.hid (show Below w.heap.size w X from hX ▸ bnew w _)
  have HM := Lib.hid hM
  have HL := Lib.hid hL
  clear hM hL
  have HK := Lib.hid hK
  clear hK
  have HC6 := Lib.hid hC
  clear hC
  have a61 : (6 : Int) < (t.size : Int) := by omega
  have a62 : decide ((6 : Int) < (t.size : Int)) = true := decide_eq_true a61
  have a63 : decide (6 < t.size) = true := decide_eq_true (by omega)
  have a64 : 6 ≤ t.size := by omega
  have a65 : (6 : Int) ≤ (t.size : Int) := by omega
  have a66 : 6 ≤ low.size := by omega
  have a67 : (6 : Int) ≤ (low.size : Int) := by omega
  have a71 : (7 : Int) < (t.size : Int) := by omega
  have a72 : decide ((7 : Int) < (t.size : Int)) = true := decide_eq_true a71
  have a73 : decide (7 < t.size) = true := decide_eq_true (by omega)
  have a74 : 7 ≤ t.size := by omega
  have a75 : (7 : Int) ≤ (t.size : Int) := by omega
  have a76 : 7 ≤ low.size := by omega
  have a77 : (7 : Int) ≤ (low.size : Int) := by omega
  go_enter Tryz.func51, Tryz.ntmps51
  go_wp2_with (first | (go_at_call 70; refine (HM.out _).mono ?_; rintro e w1 ⟨rfl, rfl⟩) | (go_at_call 41; refine (HL.out _).mono ?_; rintro e w2 ⟨rfl, hb2⟩) | (go_at_call 71; refine (HK.out _).mono ?_; rintro e w3 ⟨rfl, hb3⟩; have HXK := Lib.hid ((HXB.out.to hb2).to hb3); have HB2 := Lib.hid (HB0.out.trans ((hb2.trans (hb3.mono hb2.size)).mono HB0.out.size)); have z0 := HXK.out.cell 0 rfl; have z1 := HXK.out.cell 1 rfl; have z2 := HXK.out.cell 2 rfl; have z3 := HXK.out.cell 3 rfl; have z4 := HXK.out.cell 4 rfl; have z5 := HXK.out.cell 5 rfl; have z6 := HXK.out.cell 6 rfl; have z7 := HXK.out.cell 7 rfl; have f0 := HXK.out.free 0; have f1 := HXK.out.free 1; have f2 := HXK.out.free 2; have f3 := HXK.out.free 3; have f4 := HXK.out.free 4; have f5 := HXK.out.free 5; have f6 := HXK.out.free 6; have f7 := HXK.out.free 7; clear hb2 hb3) | (go_at_call 72; refine (HC6.out _).mono ?_; rintro e w4 ⟨rfl, rfl⟩))
  show bodyPost _ _ _ _ _ (st8 _ w.heap.size {})
  exact bodyPost_ret (ret46 (p := 2) (t2 := 3) rfl _ _ w.heap.size {} (.bool false) rfl rfl (st8_has (x := {}) HXK.out)) rfl (src_done {} false rfl HB2.out (fun y hy => by cases hy))
theorem ext_pre {s : ByteArray} {l : List UInt8} (h : (s.extract 0 7).toList = l) : (s.extract 0 6).toList = l.take 6 := by
  rw [Lib.extract_toList] at *
  rw [← h, List.take_take]; rfl
theorem rquoted_is (s : ByteArray) (hs : s.size ≤ 2097152) (w : World) : Calls Tryz.prog 51 #[.string s] w (RdRet (quotP s.data.toList) w) := by
  have hM := fun W : World => rmarked_is s hs W
  unfold quotP
  cases hm : refM s.data.toList with
  | none =>
    rw [hm] at hM
    exact rquoted_no s _ hM w
  | some l =>
    rw [hm] at hM
    rw [Option.bind_some]
    have hts : (mkB l).size ≤ 2097152 := by
      rw [mkB_size]
      unfold refM at hm
      split at hm
      · cases hm
        rw [List.length_take, List.length_drop, Ks.len_list]; omega
      · cases hm
    rw [show (some l : Option (List UInt8)).getD [] = l from rfl, show (some l : Option (List UInt8)).isSome = true from rfl] at hM
    generalize mkB l = t at *
    have hL : LoC t (lowS t) := fun W => rlower_is t (by omega) W
    have hz := lows_size t
    unfold quotT
    generalize lowS t = low at *
    have hK : ∀ r, keywordB low = r → KwC low r := fun r hr W => rkeyword_is low r hr W
    by_cases k0 : keywordB low = true
    · rw [if_pos k0]
      exact rquoted_kw s t low hz hM hL (hK _ k0) w
    have k0' : keywordB low = false := Bool.eq_false_iff.2 k0
    rw [if_neg k0]
    have hC6 : ∀ r, rcodeB (t.extract 6 t.size).data.toList = r → CoC (t.extract 6 t.size) r := fun r hr W => rcoded_is _ (by rw [ByteArray.size_extract]; omega) r hr W
    have hC7 : ∀ r, rcodeB (t.extract 7 t.size).data.toList = r → CoC (t.extract 7 t.size) r := fun r hr W => rcoded_is _ (by rw [ByteArray.size_extract]; omega) r hr W
    by_cases h6 : 6 < t.size
    · by_cases b6 : (low.extract 0 6).toList = [110, 111, 110, 99, 101, 45]
      · by_cases c6 : rcodeB (t.extract 6 t.size).data.toList = true
        · rw [if_pos ⟨h6, b6, c6⟩]
          exact rquoted_nonce s t low hz hM hL (hK _ k0') h6 (beq_iff_eq.2 b6) (hC6 _ c6) w
        · have c6' := Bool.eq_false_iff.2 c6
          rw [if_neg (fun h => c6 h.2.2)]
          have hno : ∀ l : List UInt8, l.take 6 ≠ [110, 111, 110, 99, 101, 45] → (low.extract 0 7).toList ≠ l := fun l hl e => hl ((ext_pre e).symm.trans b6)
          have n0 := hno [115, 104, 97, 50, 53, 54, 45] (by decide)
          have n1 := hno [115, 104, 97, 51, 56, 52, 45] (by decide)
          have n2 := hno [115, 104, 97, 53, 49, 50, 45] (by decide)
          rw [if_neg (fun h => by rcases h.2.1 with h | h | h; exact n0 h; exact n1 h; exact n2 h)]
          by_cases h7 : 7 < t.size
          · exact rquoted_miss_true s t low hz hM hL (hK _ k0') h7 (beq_iff_eq.2 b6) (beq_eq_false_iff_ne.2 n0) (beq_eq_false_iff_ne.2 n1) (beq_eq_false_iff_ne.2 n2) (hC6 _ c6') w
          · exact rquoted_sev_true s t low hz hM hL (hK _ k0') h6 (by omega) (beq_iff_eq.2 b6) (hC6 _ c6') w
      · rw [if_neg (fun h => b6 h.2.1)]
        have b6' := beq_eq_false_iff_ne.2 b6
        by_cases h7 : 7 < t.size
        · by_cases c7 : rcodeB (t.extract 7 t.size).data.toList = true
          · by_cases p0 : (low.extract 0 7).toList = [115, 104, 97, 50, 53, 54, 45]
            · rw [if_pos ⟨h7, .inl p0, c7⟩]
              exact rquoted_hash0 s t low hz hM hL (hK _ k0') h7 b6' (beq_iff_eq.2 p0) (hC7 _ c7) w
            by_cases p1 : (low.extract 0 7).toList = [115, 104, 97, 51, 56, 52, 45]
            · rw [if_pos ⟨h7, .inr (.inl p1), c7⟩]
              exact rquoted_hash1 s t low hz hM hL (hK _ k0') h7 b6' (beq_eq_false_iff_ne.2 p0) (beq_iff_eq.2 p1) (hC7 _ c7) w
            by_cases p2 : (low.extract 0 7).toList = [115, 104, 97, 53, 49, 50, 45]
            · rw [if_pos ⟨h7, .inr (.inr p2), c7⟩]
              exact rquoted_hash2 s t low hz hM hL (hK _ k0') h7 b6' (beq_eq_false_iff_ne.2 p0) (beq_eq_false_iff_ne.2 p1) (beq_iff_eq.2 p2) (hC7 _ c7) w
            rw [if_neg (fun h => by rcases h.2.1 with h | h | h; exact p0 h; exact p1 h; exact p2 h)]
            exact rquoted_miss_false s t low hz hM hL (hK _ k0') h7 b6' (beq_eq_false_iff_ne.2 p0) (beq_eq_false_iff_ne.2 p1) (beq_eq_false_iff_ne.2 p2) w
          · have c7' := Bool.eq_false_iff.2 c7
            rw [if_neg (fun h => c7 h.2.2)]
            by_cases p0 : (low.extract 0 7).toList = [115, 104, 97, 50, 53, 54, 45]
            · exact rquoted_hno0 s t low hz hM hL (hK _ k0') h7 b6' (beq_iff_eq.2 p0) (hC7 _ c7') w
            by_cases p1 : (low.extract 0 7).toList = [115, 104, 97, 51, 56, 52, 45]
            · exact rquoted_hno1 s t low hz hM hL (hK _ k0') h7 b6' (beq_eq_false_iff_ne.2 p0) (beq_iff_eq.2 p1) (hC7 _ c7') w
            by_cases p2 : (low.extract 0 7).toList = [115, 104, 97, 53, 49, 50, 45]
            · exact rquoted_hno2 s t low hz hM hL (hK _ k0') h7 b6' (beq_eq_false_iff_ne.2 p0) (beq_eq_false_iff_ne.2 p1) (beq_iff_eq.2 p2) (hC7 _ c7') w
            exact rquoted_miss_false s t low hz hM hL (hK _ k0') h7 b6' (beq_eq_false_iff_ne.2 p0) (beq_eq_false_iff_ne.2 p1) (beq_eq_false_iff_ne.2 p2) w
        · rw [if_neg (fun h => h7 h.1)]
          exact rquoted_sev_false s t low hz hM hL (hK _ k0') h6 (by omega) b6' w
    · rw [if_neg (fun h => h6 h.1), if_neg (fun h => h6 (by omega))]
      exact rquoted_short s t low hz hM hL (hK _ k0') (by omega) w
end Go.Proofs.YtempmmkdppelaaaGreatDoor
