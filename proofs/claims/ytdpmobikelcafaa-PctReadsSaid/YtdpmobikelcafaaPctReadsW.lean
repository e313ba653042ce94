/-
  The walk of bastionlaw01.PctReads: it answers true for every two texts within the form's reach, and changes nothing that was there.
-/
import Derived.Test.YtdpmobikelcafaaRefD
import Derived.Test.YtdpmobikelcafaaLive1
namespace Go.Proofs.Ytdpmobikelcafaa
open Go.RowKit M
set_option maxHeartbeats 1000000 in
theorem PctReads_walk (a : ByteArray) (ha : a.size ≤ 140737488351232) (b : ByteArray) (hb : b.size ≤ 140737488351232) (w : World) :
    Calls Try.prog 4 #[.string a, .string b] w fun e w' => e = .returned (.bool true) ∧ Below w.heap.size w w' := by
  go_enter Try.func4, Try.ntmps4
  go_wp2_with fail
  refine (lives_any _).mono ?_
  rintro e w1 ⟨rfl, hb1⟩
  go_wp2_with fail
  refine (decode_any a (by omega) _).mono ?_
  rintro e w2 ⟨rfl, hb2⟩
  go_wp2_with fail
  refine (rdecode a (by omega) _).mono ?_
  rintro e w3 ⟨rfl, hb3⟩
  go_wp2_with fail
  refine (lower_any a (by unfold maxLen; omega) _).mono ?_
  rintro e w4 ⟨rfl, hb4⟩
  go_wp2_with fail
  refine (rlower a (by omega) _).mono ?_
  rintro e w5 ⟨rfl, hb5⟩
  go_wp2_with fail
  refine (upper_any a (by unfold maxLen; omega) _).mono ?_
  rintro e w6 ⟨rfl, hb6⟩
  go_wp2_with fail
  refine (rupper a (by omega) _).mono ?_
  rintro e w7 ⟨rfl, hb7⟩
  go_wp2_with fail
  refine (same_any a b (by unfold maxLen; omega) (by unfold maxLen; omega) _).mono ?_
  rintro e w8 ⟨rfl, hb8⟩
  go_wp2_with fail
  refine (rsame a b (by omega) (by omega) _).mono ?_
  rintro e w9 ⟨rfl, hb9⟩
  go_wp2
  go_ret
  have n := Nat.le_refl w.heap.size
  exact ⟨rfl, bel (bel (bel (bel (bel (bel (bel (bel hb1 hb2 n) hb3 n) hb4 n) hb5 n) hb6 n) hb7 n) hb8 n) hb9 n⟩
end Go.Proofs.Ytdpmobikelcafaa
