import Derived.Test.YtdpmobikelcafaaUtfJ
namespace Go.Proofs.Ytdpmobikelcafaa
open Go.RowKit
theorem same_is (va vb : Value) (la lb : List Int) (b : Bool) (hb : decide (la = lb) = b) (hm : la.length ≤ 140737488355328) (w : World) (h1 : RunesAt w va la) (h2 : RunesAt w vb lb) :
    Calls Try.prog 31 #[va, vb] w fun e w' => e = .returned (.bool b) ∧ Below w.heap.size w w' := by
  rw [← hb]; exact same_runes va vb la lb hm w h1 h2
theorem runes_new (w : World) (l : List Int) (t : TypeId) (cap : Nat) : RunesAt (w.alloc (.cells (l.map (Value.int .i32)).toArray t)) (.slice (some ⟨w.heap.size, 0, none⟩) l.length cap) l :=
  runes_lit (heap_alloc_new w _) cap
theorem bel2 {a w1 w2 : World} (h : Below a.heap.size a w1) (k : Below w1.heap.size w1 w2) : Below a.heap.size a w2 := h.trans (k.mono h.size)
theorem lv1 : U.runesZ (⟨#[226, 130, 65]⟩ : ByteArray).data.toList = [65533, 65] := by decide +kernel
theorem lv2 : U.runesZ (⟨#[192, 128]⟩ : ByteArray).data.toList = [65533, 65533] := by decide +kernel
theorem lv3 : U.enc [55296, 128512] = [239, 191, 189, 240, 159, 152, 128] := by decide +kernel
theorem lv4 : U.good (⟨#[97]⟩ : ByteArray).data.toList = true := by decide +kernel
theorem lv5 : U.good (⟨#[128]⟩ : ByteArray).data.toList = false := by decide +kernel
theorem lv6 : (U.encR 2048).length = 3 := by decide +kernel
set_option maxHeartbeats 1000000 in
theorem lives2 (w : World) : Calls Try.prog 30 #[] w fun e w' => e = .returned (.bool true) ∧ Below w.heap.size w w' := by
  go_enter Try.func30, Try.ntmps30
  go_wp2_with fail
  refine (decode_runes _ _ lv1 (by decide) _).mono ?_
  rintro e w1 ⟨v1, rfl, hr1, hb1⟩
  have hA1 := hr1.at
  go_wp2_with fail
  have hC1 := runes_new w1 [65533, 65] 21 2
  have hA2 := hA1.below ((Below.refl _ w1).alloc (Nat.le_refl _) (.cells #[.int .i32 65533, .int .i32 65] 21))
  refine (same_is _ _ [65533, 65] [65533, 65] true (by decide) (by decide) _ hA2 hC1).mono ?_
  rintro e w2 ⟨rfl, hb2⟩
  go_wp2_with fail
  refine (decode_runes _ _ lv2 (by decide) _).mono ?_
  rintro e w3 ⟨v3, rfl, hr3, hb3⟩
  have hA3 := hr3.at
  go_wp2_with fail
  have hC3 := runes_new w3 [65533, 65533] 21 2
  have hA4 := hA3.below ((Below.refl _ w3).alloc (Nat.le_refl _) (.cells #[.int .i32 65533, .int .i32 65533] 21))
  refine (same_is _ _ [65533, 65533] [65533, 65533] true (by decide) (by decide) _ hA4 hC3).mono ?_
  rintro e w4 ⟨rfl, hb4⟩
  go_wp2_with fail
  have hC5 := runes_new w4 [55296, 128512] 21 2
  refine (encode_runes _ [55296, 128512] _ lv3 (by decide) _ hC5).mono ?_
  rintro e w5 ⟨rfl, hb5⟩
  go_wp2_with fail
  refine (valid_is _ _ lv4 (by decide) _).mono ?_
  rintro e w6 ⟨rfl, hb6⟩
  go_wp2_with fail
  refine (valid_is _ _ lv5 (by decide) _).mono ?_
  rintro e w7 ⟨rfl, hb7⟩
  go_wp2_with fail
  refine (width_is 2048 3 lv6 _).mono ?_
  rintro e w8 ⟨rfl, rfl⟩
  go_wp2_with fail
  go_ret
  have c1 := bel2 (hb1.alloc hb1.size (.cells #[.int .i32 65533, .int .i32 65] 21)) hb2
  have c2 := bel2 c1 hb3
  have c3 := bel2 (c2.alloc c2.size (.cells #[.int .i32 65533, .int .i32 65533] 21)) hb4
  have c4 := bel2 (c3.alloc c3.size (.cells #[.int .i32 55296, .int .i32 128512] 21)) hb5
  exact ⟨rfl, bel2 (bel2 c4 hb6) hb7⟩
end Go.Proofs.Ytdpmobikelcafaa
