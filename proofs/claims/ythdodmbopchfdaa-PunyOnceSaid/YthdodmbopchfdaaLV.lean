import Derived.Test.YthdodmbopchfdaaRU
namespace Go.Proofs.Ythdodmbopchfdaa
open Go.RowKit P
theorem lv1 : encS [98, 252, 99, 104, 101, 114] = ([98, 99, 104, 101, 114, 45, 107, 118, 97], 0) := by decide +kernel
theorem lv2 : decS ⟨#[102, 105, 113, 50, 50, 56, 99]⟩ = ([20013, 25991], 0) := by decide +kernel
theorem lv3 : decS ⟨#[97, 45, 98, 33]⟩ = ([], 9) := by decide +kernel
theorem encRes_is {l : List Int} {bs : List Int} {c : Int} {w : World} {e : Ending} {w' : World} (h : encRes l w e w') (he : encS l = (bs, c)) : e = .returned (.tuple #[.string ⟨(bs.map u8).toArray⟩, .int .i64 c]) ∧ Below w.heap.size w w' := by
  unfold encRes at h
  rw [he] at h; exact h
theorem u8s1 : (⟨([98, 99, 104, 101, 114, 45, 107, 118, 97].map u8).toArray⟩ : ByteArray) = ⟨#[98, 99, 104, 101, 114, 45, 107, 118, 97]⟩ := by decide +kernel
set_option maxRecDepth 100000 in
set_option maxHeartbeats 2000000 in
theorem lives_is (w : World) : Calls Try.prog 9 #[] w fun e w' => e = .returned (.bool true) ∧ Below w.heap.size w w' := by
  go_enter Try.func9, Try.ntmps9
  go_wp2_with fail
  refine (encode_is [98, 252, 99, 104, 101, 114] _ (by simp) _ (runes_lit (l := [98, 252, 99, 104, 101, 114]) (heap_alloc_new w _) 6)).mono ?_
  intro e w1 hr
  obtain ⟨rfl, hb1⟩ := encRes_is hr lv1
  rw [u8s1]
  have hb1' := bel2 (bnew w _) hb1
  clear hr
  go_wp2_with fail
  refine (decode_is ⟨#[102, 105, 113, 50, 50, 56, 99]⟩ (by show 7 ≤ maxLen; unfold maxLen; omega) _ _ lv2 _).mono ?_
  rintro e w2 ⟨v2, rfl, hA2, _, hb2⟩
  have hb2' := bel2 hb1' hb2
  obtain ⟨p2, c2, rfl, _⟩ := id hA2
  go_wp2_with fail
  refine (decode_is ⟨#[97, 45, 98, 33]⟩ (by show 4 ≤ maxLen; unfold maxLen; omega) _ _ lv3 _).mono ?_
  rintro e w3 ⟨v3, rfl, hA3, _, hb3⟩
  have hb3' := bel2 hb2' hb3
  have hA23 := (hA2.below hb3).below (bnew w3 (.cells #[.int .i32 20013, .int .i32 25991] 21))
  go_wp2_with fail
  refine (same_is _ _ [20013, 25991] [20013, 25991] true (by simp) (by simp) _ hA23 (runes_lit (l := [20013, 25991]) (heap_alloc_new w3 _) 2)).mono ?_
  rintro e w4 ⟨rfl, hb4⟩
  go_wp2
  go_ret
  exact ⟨rfl, bel2 (bel2 hb3' (bnew w3 _)) hb4⟩
end Go.Proofs.Ythdodmbopchfdaa
