/-
  The contract of bastionlaw01.lives: it answers true; nothing that was there is changed. No conditions.
-/
import Derived.Test.YtdpmobikelcafaaPctD
namespace Go.Proofs.Ytdpmobikelcafaa
open Go.RowKit M
theorem live_enc (w : World) : Calls Try.prog 17 #[.string ⟨#[97, 32, 98, 47, 195, 169]⟩, .int .u8 5] w fun e w' => e = .returned (.tuple #[.string ⟨#[97, 37, 50, 48, 98, 47, 37, 67, 51, 37, 65, 57]⟩, .int .i64 0]) ∧ Below w.heap.size w w' :=
  (encode_any ⟨#[97, 32, 98, 47, 195, 169]⟩ (by decide) 5 (by omega) (by omega) w).mono fun e w' ⟨h, hb⟩ => ⟨by rw [h]; exact congrArg (fun l : List UInt8 => Ending.returned (.tuple #[.string ⟨l.toArray⟩, .int .i64 0])) (show enc 5 [97, 32, 98, 47, 195, 169] = [97, 37, 50, 48, 98, 47, 37, 67, 51, 37, 65, 57] by decide +kernel), hb⟩
theorem live_bad (w : World) : Calls Try.prog 17 #[.string ⟨#[97]⟩, .int .u8 0] w fun e w' => e = .returned (.tuple #[.string ⟨#[]⟩, .int .i64 5]) ∧ w = w' := encode_bad _ 0 (by omega) (.inl rfl) w
theorem live_dec (w : World) : Calls Try.prog 22 #[.string ⟨#[37, 52, 49, 37, 52, 97, 37, 122, 122, 37, 52]⟩] w fun e w' => e = .returned (.string ⟨#[65, 74, 37, 122, 122, 37, 52]⟩) ∧ Below w.heap.size w w' :=
  (decode_any ⟨#[37, 52, 49, 37, 52, 97, 37, 122, 122, 37, 52]⟩ (by decide) w).mono fun e w' ⟨h, hb⟩ => ⟨by rw [h]; exact congrArg (fun l : List UInt8 => Ending.returned (.string ⟨l.toArray⟩)) (show dec [37, 52, 49, 37, 52, 97, 37, 122, 122, 37, 52] = [65, 74, 37, 122, 122, 37, 52] by decide +kernel), hb⟩
theorem live_low (w : World) : Calls Try.prog 24 #[.string ⟨#[65, 98, 90, 91]⟩] w fun e w' => e = .returned (.string ⟨#[97, 98, 122, 91]⟩) ∧ Below w.heap.size w w' :=
  (lower_any ⟨#[65, 98, 90, 91]⟩ (by decide) w).mono fun e w' ⟨h, hb⟩ => ⟨by rw [h]; exact congrArg (fun l : List UInt8 => Ending.returned (.string ⟨l.toArray⟩)) (show [65, 98, 90, 91].map low = [97, 98, 122, 91] by decide +kernel), hb⟩
theorem live_upp (w : World) : Calls Try.prog 26 #[.string ⟨#[97, 122, 123]⟩] w fun e w' => e = .returned (.string ⟨#[65, 90, 123]⟩) ∧ Below w.heap.size w w' :=
  (upper_any ⟨#[97, 122, 123]⟩ (by decide) w).mono fun e w' ⟨h, hb⟩ => ⟨by rw [h]; exact congrArg (fun l : List UInt8 => Ending.returned (.string ⟨l.toArray⟩)) (show [97, 122, 123].map upp = [65, 90, 123] by decide +kernel), hb⟩
theorem live_same (w : World) : Calls Try.prog 28 #[.string ⟨#[97, 66]⟩, .string ⟨#[65, 98]⟩] w fun e w' => e = .returned (.bool true) ∧ Below w.heap.size w w' :=
  (same_any ⟨#[97, 66]⟩ ⟨#[65, 98]⟩ (by decide) (by decide) w).mono fun e w' ⟨h, hb⟩ => ⟨by rw [h]; exact ret_bool (by decide +kernel), hb⟩
/-- 'Below' chains -/
theorem bel {B : Nat} {w w1 w2 : World} (h : Below B w w1) (k : Below w1.heap.size w1 w2) (hB : B ≤ w.heap.size) : Below B w w2 := h.trans (k.mono (Nat.le_trans hB h.size))
set_option maxHeartbeats 1000000 in
theorem lives_any (w : World) : Calls Try.prog 19 #[] w fun e w' => e = .returned (.bool true) ∧ Below w.heap.size w w' := by
  go_enter Try.func19, Try.ntmps19
  go_wp2_with fail
  refine (live_enc _).mono ?_
  rintro e w1 ⟨rfl, hb1⟩
  go_wp2_with fail
  refine (live_bad _).mono ?_
  rintro e w2 ⟨rfl, rfl⟩
  go_wp2_with fail
  refine (live_dec _).mono ?_
  rintro e w2 ⟨rfl, hb2⟩
  go_wp2_with fail
  refine (live_low _).mono ?_
  rintro e w3 ⟨rfl, hb3⟩
  go_wp2_with fail
  refine (live_upp _).mono ?_
  rintro e w4 ⟨rfl, hb4⟩
  go_wp2_with fail
  refine (live_same _).mono ?_
  rintro e w5 ⟨rfl, hb5⟩
  go_wp2
  go_ret
  exact ⟨rfl, bel (bel (bel (bel hb1 hb2 (Nat.le_refl _)) hb3 (Nat.le_refl _)) hb4 (Nat.le_refl _)) hb5 (Nat.le_refl _)⟩
end Go.Proofs.Ytdpmobikelcafaa
