/-
  The walk of bastionlaw01.PctSets: it answers true for every text of which three times the length is at most 2^47, every set byte and every byte, and changes nothing that was there.
-/
import Derived.Test.YtdpmobikelcafaaRefC
import Derived.Test.YtdpmobikelcafaaLive1
namespace Go.Proofs.Ytdpmobikelcafaa
open Go.RowKit M
set_option maxHeartbeats 1000000 in
theorem PctSets_walk (t : ByteArray) (ht : t.size ≤ 1048576) (s0 : Int) (hs0 : (Lit.int .u8 s0).wf = true) (b0 : Int) (hb0 : (Lit.int .u8 b0).wf = true) (w : World) :
    Calls Try.prog 3 #[.string t, .int .u8 s0, .int .u8 b0] w fun e w' => e = .returned (.bool true) ∧ Below w.heap.size w w' := by
  have hx : 0 ≤ b0 ∧ b0 ≤ 255 := by simpa [Lit.wf, IntKind.min, IntKind.max, IntKind.signed, IntKind.bits] using hb0
  have hy : 0 ≤ s0 ∧ s0 ≤ 255 := by simpa [Lit.wf, IntKind.min, IntKind.max, IntKind.signed, IntKind.bits] using hs0
  obtain ⟨b, rfl⟩ := Int.eq_ofNat_of_zero_le hx.1
  obtain ⟨s, rfl⟩ := Int.eq_ofNat_of_zero_le hy.1
  have hb : b < 256 := by omega
  have hs : s < 256 := by omega
  clear hb0 hx hs0 hy
  have n := Nat.le_refl w.heap.size
  by_cases hbad : s = 0 ∨ 9 ≤ s
  · go_enter Try.func3, Try.ntmps3
    go_wp2_with fail
    refine (encode_bad t s hs hbad _).mono ?_
    rintro e w1 ⟨rfl, rfl⟩
    go_wp2_with fail
    refine (rencode_bad t s hs hbad _).mono ?_
    rintro e w1 ⟨rfl, rfl⟩
    go_wp2_with fail
    refine (lives_any _).mono ?_
    rintro e w2 ⟨rfl, hb2⟩
    go_wp2_with fail
    refine (in_any s b hs hb _).mono ?_
    rintro e w3 ⟨rfl, hb3⟩
    go_wp2_with fail
    refine (rin_any s b hs hb _).mono ?_
    rintro e w4 ⟨rfl, rfl⟩
    go_wp2
    go_ret
    exact ⟨rfl, bel hb2 hb3 n⟩
  · go_enter Try.func3, Try.ntmps3
    go_wp2_with fail
    refine (encode_any t (by omega) s (by omega) (by omega) _).mono ?_
    rintro e w1 ⟨rfl, hb1⟩
    go_wp2_with fail
    refine (rencode t (by omega) s (by omega) (by omega) _).mono ?_
    rintro e w2 ⟨rfl, hb2⟩
    go_wp2_with fail
    refine (lives_any _).mono ?_
    rintro e w3 ⟨rfl, hb3⟩
    go_wp2_with fail
    refine (in_any s b hs hb _).mono ?_
    rintro e w4 ⟨rfl, hb4⟩
    go_wp2_with fail
    refine (rin_any s b hs hb _).mono ?_
    rintro e w5 ⟨rfl, rfl⟩
    go_wp2
    go_ret
    exact ⟨rfl, bel (bel (bel hb1 hb2 n) hb3 n) hb4 n⟩
end Go.Proofs.Ytdpmobikelcafaa
