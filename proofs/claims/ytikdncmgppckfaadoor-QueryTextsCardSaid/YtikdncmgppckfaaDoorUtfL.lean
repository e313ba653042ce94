import Derived.Test.YtikdncmgppckfaaDoorUtfI
import Derived.Test.YtikdncmgppckfaaDoorPB
namespace Go.Proofs.YtikdncmgppckfaaDoor
open Go.RowKit
set_option maxHeartbeats 400000 in
theorem rmay_any (r : Int) (w : World) : Calls Tryd.prog 106 #[.int .i32 r] w fun e w' => e = .returned (.bool (decide (U.May r))) ∧ w = w' := by
  have H : Hid ((U.May r → decide (U.May r) = true) ∧ (¬ U.May r → decide (U.May r) = false)) := Lib.hid ⟨fun h => by simp [h], fun h => by simp [h]⟩
  by_cases h0 : 0 ≤ r
  · by_cases h2 : r < 55296
    · go_enter Tryd.func106, Tryd.ntmps106
      go_wp2
      go_ret
      exact ⟨ret_bool (by rw [H.out.1 (by unfold U.May; omega)]), rfl⟩
    · by_cases h3 : 57343 < r
      · by_cases h1 : r ≤ 1114111
        · go_enter Tryd.func106, Tryd.ntmps106
          go_wp2
          go_ret
          exact ⟨ret_bool (by rw [H.out.1 (by unfold U.May; omega)]), rfl⟩
        · go_enter Tryd.func106, Tryd.ntmps106
          go_wp2
          go_ret
          exact ⟨ret_bool (by rw [H.out.2 (by unfold U.May; omega)]), rfl⟩
      · go_enter Tryd.func106, Tryd.ntmps106
        go_wp2
        go_ret
        exact ⟨ret_bool (by rw [H.out.2 (by unfold U.May; omega)]), rfl⟩
  · by_cases h3 : 57343 < r
    · omega
    · go_enter Tryd.func106, Tryd.ntmps106
      go_wp2
      go_ret
      exact ⟨ret_bool (by rw [H.out.2 (by unfold U.May; omega)]), rfl⟩
theorem rmay_yes (r : Int) (h : U.May r) (w : World) : Calls Tryd.prog 106 #[.int .i32 r] w fun e w' => e = .returned (.bool true) ∧ w = w' := (rmay_any r w).mono fun _ _ ⟨h1, h2⟩ => ⟨by rw [h1]; exact ret_bool (by simp [h]), h2⟩
theorem rmay_no (r : Int) (h : ¬ U.May r) (w : World) : Calls Tryd.prog 106 #[.int .i32 r] w fun e w' => e = .returned (.bool false) ∧ w = w' := (rmay_any r w).mono fun _ _ ⟨h1, h2⟩ => ⟨by rw [h1]; exact ret_bool (by simp [h]), h2⟩
def RBytes (r : Int) (w : World) (e : Ending) (w' : World) : Prop := e = .returned (.slice (some ⟨w.heap.size, 0, none⟩) (U.encR r).length (U.encR r).length) ∧ w' = w.alloc (.cells (Lib.byteCells (U.encR r)).toArray 5)
theorem u8i (x : Int) (h0 : 0 ≤ x) (h1 : x < 256) : ((x.toNat.toUInt8).toNat : Int) = x := by rw [U.u8_nat (by omega)]; omega
set_option maxRecDepth 20000 in
set_option maxHeartbeats 2000000 in
theorem rbytes_1 (r : Int) (h1 : 0 ≤ r) (h2 : r ≤ 127) (w : World) : Calls Tryd.prog 88 #[.int .i32 r] w (RBytes r w) := by
  have HM := Lib.hid (show U.May r by unfold U.May; omega)
  have HE := Lib.hid (U.encR1 (r := r) h1 h2)
  have E0 := Lib.hid (u8i (r) (by omega) (by omega))
  unfold RBytes
  rw [HE.out]
  go_enter Tryd.func88, Tryd.ntmps88
  go_wp2_with fail
  refine (rmay_yes r HM.out _).mono ?_
  rintro e w' ⟨rfl, rfl⟩
  go_wp2
  go_ret
  refine ⟨rfl, ?_⟩
  simp only [Lib.byteCells, List.map_cons, List.map_nil, E0.out]
set_option maxRecDepth 20000 in
set_option maxHeartbeats 2000000 in
theorem rbytes_2 (r : Int) (h1 : 128 ≤ r) (h2 : r ≤ 2047) (w : World) : Calls Tryd.prog 88 #[.int .i32 r] w (RBytes r w) := by
  have HM := Lib.hid (show U.May r by unfold U.May; omega)
  have HE := Lib.hid (U.encR2 (r := r) h1 h2)
  have E0 := Lib.hid (u8i (192 + r / 64) (by omega) (by omega))
  have E1 := Lib.hid (u8i (128 + r % 64) (by omega) (by omega))
  unfold RBytes
  rw [HE.out]
  go_enter Tryd.func88, Tryd.ntmps88
  go_wp2_with fail
  refine (rmay_yes r HM.out _).mono ?_
  rintro e w' ⟨rfl, rfl⟩
  go_wp2
  go_ret
  refine ⟨rfl, ?_⟩
  simp only [Lib.byteCells, List.map_cons, List.map_nil, E0.out, E1.out]
set_option maxRecDepth 20000 in
set_option maxHeartbeats 2000000 in
theorem rbytes_3 (r : Int) (hr : (2048 ≤ r ∧ r < 55296) ∨ (57343 < r ∧ r ≤ 65535)) (w : World) : Calls Tryd.prog 88 #[.int .i32 r] w (RBytes r w) := by
  have HM := Lib.hid (show U.May r by unfold U.May; omega)
  have HE := Lib.hid (U.encR3 (r := r) hr)
  have g1 : 2048 ≤ r := by omega
  have g2 : r ≤ 65535 := by omega
  clear hr
  have E0 := Lib.hid (u8i (224 + r / 4096) (by omega) (by omega))
  have E1 := Lib.hid (u8i (128 + r / 64 % 64) (by omega) (by omega))
  have E2 := Lib.hid (u8i (128 + r % 64) (by omega) (by omega))
  unfold RBytes
  rw [HE.out]
  go_enter Tryd.func88, Tryd.ntmps88
  go_wp2_with fail
  refine (rmay_yes r HM.out _).mono ?_
  rintro e w' ⟨rfl, rfl⟩
  go_wp2
  go_ret
  refine ⟨rfl, ?_⟩
  simp only [Lib.byteCells, List.map_cons, List.map_nil, E0.out, E1.out, E2.out]
set_option maxRecDepth 20000 in
set_option maxHeartbeats 2000000 in
theorem rbytes_4 (r : Int) (h1 : 65536 ≤ r) (h2 : r ≤ 1114111) (w : World) : Calls Tryd.prog 88 #[.int .i32 r] w (RBytes r w) := by
  have HM := Lib.hid (show U.May r by unfold U.May; omega)
  have HE := Lib.hid (U.encR4 (r := r) h1 h2)
  have E0 := Lib.hid (u8i (240 + r / 262144) (by omega) (by omega))
  have E1 := Lib.hid (u8i (128 + r / 4096 % 64) (by omega) (by omega))
  have E2 := Lib.hid (u8i (128 + r / 64 % 64) (by omega) (by omega))
  have E3 := Lib.hid (u8i (128 + r % 64) (by omega) (by omega))
  unfold RBytes
  rw [HE.out]
  go_enter Tryd.func88, Tryd.ntmps88
  go_wp2_with fail
  refine (rmay_yes r HM.out _).mono ?_
  rintro e w' ⟨rfl, rfl⟩
  go_wp2
  go_ret
  refine ⟨rfl, ?_⟩
  simp only [Lib.byteCells, List.map_cons, List.map_nil, E0.out, E1.out, E2.out, E3.out]
set_option maxRecDepth 20000 in
set_option maxHeartbeats 2000000 in
theorem rbytes_bad (r : Int) (hm : ¬ U.May r) (w : World) : Calls Tryd.prog 88 #[.int .i32 r] w (RBytes r w) := by
  have HM := Lib.hid hm
  have HE := Lib.hid (show U.encR r = U.encR 65533 by rw [U.encR_bad hm]; rfl)
  unfold RBytes
  rw [HE.out]
  go_enter Tryd.func88, Tryd.ntmps88
  go_wp2_with fail
  refine (rmay_no r HM.out _).mono ?_
  rintro e w' ⟨rfl, rfl⟩
  go_wp2_with fail
  refine (rbytes_3 65533 (by omega) _).mono ?_
  rintro e w' ⟨rfl, rfl⟩
  go_wp2
  go_ret
  exact ⟨rfl, rfl⟩
theorem rbytes_any (r : Int) (w : World) : Calls Tryd.prog 88 #[.int .i32 r] w (RBytes r w) := by
  by_cases hm : U.May r
  · have hr : (0 ≤ r ∧ r < 55296) ∨ (57343 < r ∧ r ≤ 1114111) := hm
    by_cases h1 : r ≤ 127
    · exact rbytes_1 r (by omega) h1 w
    · by_cases h2 : r ≤ 2047
      · exact rbytes_2 r (by omega) h2 w
      · by_cases h3 : r ≤ 65535
        · exact rbytes_3 r (by omega) w
        · exact rbytes_4 r (by omega) (by omega) w
  · exact rbytes_bad r hm w
theorem rbytes_is (r : Int) (L : List UInt8) (hL : U.encR r = L) (w : World) : Calls Tryd.prog 88 #[.int .i32 r] w fun e w' => e = .returned (.slice (some ⟨w.heap.size, 0, none⟩) L.length L.length) ∧ w' = w.alloc (.cells (Lib.byteCells L).toArray 5) := by
  rw [← hL]; exact rbytes_any r w
end Go.Proofs.YtikdncmgppckfaaDoor
