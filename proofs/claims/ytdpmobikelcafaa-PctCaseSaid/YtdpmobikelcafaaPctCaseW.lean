/-
  The walk of bastionlaw01.PctCase: it answers true for every two texts within the form's reach, and changes nothing that was there.
-/
import Derived.Test.YtdpmobikelcafaaLive1
namespace Go.Proofs.Ytdpmobikelcafaa
open Go.RowKit M
theorem u8_all (p : UInt8 → Prop) [DecidablePred p] (h : ∀ n : Fin 256, p (UInt8.ofNat n.1)) (u : UInt8) : p u := by
  have := h ⟨u.toNat, u.toNat_lt⟩
  simpa using this
theorem low_upp (u : UInt8) : low (upp u) = low u := u8_all (fun u => low (upp u) = low u) (by decide +kernel) u
theorem upp_low (u : UInt8) : upp (low u) = upp u := u8_all (fun u => upp (low u) = upp u) (by decide +kernel) u
theorem lower_of (l L : List UInt8) (hL : l.map low = L) (hl : l.length ≤ maxLen) (w : World) :
    Calls Try.prog 24 #[.string ⟨l.toArray⟩] w fun e w' => e = .returned (.string ⟨L.toArray⟩) ∧ Below w.heap.size w w' :=
  (lower_any ⟨l.toArray⟩ hl w).mono fun _ _ ⟨h, hb⟩ => ⟨by rw [h, ← hL], hb⟩
theorem upper_of (l L : List UInt8) (hL : l.map upp = L) (hl : l.length ≤ maxLen) (w : World) :
    Calls Try.prog 26 #[.string ⟨l.toArray⟩] w fun e w' => e = .returned (.string ⟨L.toArray⟩) ∧ Below w.heap.size w w' :=
  (upper_any ⟨l.toArray⟩ hl w).mono fun _ _ ⟨h, hb⟩ => ⟨by rw [h, ← hL], hb⟩
theorem lower_is (s : ByteArray) (L : List UInt8) (hL : s.data.toList.map low = L) (hs : s.size ≤ maxLen) (w : World) :
    Calls Try.prog 24 #[.string s] w fun e w' => e = .returned (.string ⟨L.toArray⟩) ∧ Below w.heap.size w w' :=
  (lower_any s hs w).mono fun _ _ ⟨h, hb⟩ => ⟨by rw [h, ← hL], hb⟩
theorem upper_is (s : ByteArray) (L : List UInt8) (hL : s.data.toList.map upp = L) (hs : s.size ≤ maxLen) (w : World) :
    Calls Try.prog 26 #[.string s] w fun e w' => e = .returned (.string ⟨L.toArray⟩) ∧ Below w.heap.size w w' :=
  (upper_any s hs w).mono fun _ _ ⟨h, hb⟩ => ⟨by rw [h, ← hL], hb⟩
theorem same_is (s t : ByteArray) (r : Bool) (hr : sameB s.data.toList t.data.toList = r) (hs : s.size ≤ maxLen) (ht : t.size ≤ maxLen) (w : World) :
    Calls Try.prog 28 #[.string s, .string t] w fun e w' => e = .returned (.bool r) ∧ Below w.heap.size w w' :=
  (same_any s t hs ht w).mono fun _ _ ⟨h, hb⟩ => ⟨by rw [h, ← hr], hb⟩
theorem same_comm (a b : List UInt8) : sameB a b = sameB b a := by unfold sameB; rw [Bool.eq_iff_iff]; simp only [beq_iff_eq]; exact ⟨Eq.symm, Eq.symm⟩
set_option maxHeartbeats 1000000 in
theorem PctCase_walk (a : ByteArray) (ha : a.size ≤ 140737488351232) (b : ByteArray) (hb : b.size ≤ 140737488351232) (w : World) :
    Calls Try.prog 7 #[.string a, .string b] w fun e w' => e = .returned (.bool true) ∧ Below w.heap.size w w' := by
  obtain ⟨U, HU⟩ : ∃ U, Hid (a.data.toList.map upp = U) := ⟨_, Lib.hid rfl⟩
  obtain ⟨L, HL⟩ : ∃ L, Hid (a.data.toList.map low = L) := ⟨_, Lib.hid rfl⟩
  obtain ⟨K, HK⟩ : ∃ K, Hid (b.data.toList.map low = K) := ⟨_, Lib.hid rfl⟩
  have hU : U.length ≤ a.size := by rw [← HU.out]; simp
  have hL : L.length ≤ a.size := by rw [← HL.out]; simp
  have hK : K.length ≤ b.size := by rw [← HK.out]; simp
  have HUL := Lib.hid (show U.map low = L by rw [← HU.out, ← HL.out, List.map_map]; exact List.map_congr_left fun u _ => low_upp u)
  have HLU := Lib.hid (show L.map upp = U by rw [← HU.out, ← HL.out, List.map_map]; exact List.map_congr_left fun u _ => upp_low u)
  have HAB := Lib.hid (show (a ++ b).data.toList.map low = L ++ K by rw [ByteArray.data_append, Array.toList_append, List.map_append, HL.out, HK.out])
  have HSU := Lib.hid (show sameB a.data.toList (⟨U.toArray⟩ : ByteArray).data.toList = true by
    show (a.data.toList.map low == U.map low) = true
    rw [HUL.out, HL.out]; simp)
  obtain ⟨r, HR⟩ : ∃ r, Hid (sameB a.data.toList b.data.toList = r) := ⟨_, Lib.hid rfl⟩
  have HR2 := Lib.hid (show sameB b.data.toList a.data.toList = r by rw [same_comm]; exact HR.out)
  have HRS := Lib.hid (show r = true → a.size = b.size from fun h => by
    by_cases hs : a.size = b.size
    · exact hs
    · have := HR.out; rw [same_size hs] at this; rw [← this] at h; cases h)
  have habs : (a ++ b).size = a.size + b.size := ByteArray.size_append
  have HABS := Lib.hid habs
  clear habs
  go_enter Try.func7, Try.ntmps7
  go_wp2_with fail
  refine (lives_any _).mono ?_
  rintro e w1 ⟨rfl, hb1⟩
  go_wp2_with fail
  refine (upper_is a U HU.out (by unfold maxLen; omega) _).mono ?_
  rintro e w2 ⟨rfl, hb2⟩
  go_wp2_with fail
  refine (lower_of U L HUL.out (by unfold maxLen; omega) _).mono ?_
  rintro e w3 ⟨rfl, hb3⟩
  go_wp2_with fail
  refine (lower_is a L HL.out (by unfold maxLen; omega) _).mono ?_
  rintro e w4 ⟨rfl, hb4⟩
  go_wp2_with fail
  refine (lower_is a L HL.out (by unfold maxLen; omega) _).mono ?_
  rintro e w5 ⟨rfl, hb5⟩
  go_wp2_with fail
  refine (upper_of L U HLU.out (by unfold maxLen; omega) _).mono ?_
  rintro e w6 ⟨rfl, hb6⟩
  go_wp2_with fail
  refine (upper_is a U HU.out (by unfold maxLen; omega) _).mono ?_
  rintro e w7 ⟨rfl, hb7⟩
  go_wp2_with fail
  refine (lower_is (a ++ b) (L ++ K) HAB.out (by rw [HABS.out]; unfold maxLen; omega) _).mono ?_
  rintro e w8 ⟨rfl, hb8⟩
  go_wp2_with fail
  refine (lower_is a L HL.out (by unfold maxLen; omega) _).mono ?_
  rintro e w9 ⟨rfl, hb9⟩
  go_wp2_with fail
  refine (lower_is b K HK.out (by unfold maxLen; omega) _).mono ?_
  rintro e w10 ⟨rfl, hb10⟩
  have hj : ((⟨L.toArray⟩ : ByteArray) ++ ⟨K.toArray⟩).toList = L ++ K := by rw [ByteArray.toList_eq, ByteArray.data_append]; simp
  go_wp2_with fail
  clear hj
  refine (upper_is a U HU.out (by unfold maxLen; omega) _).mono ?_
  rintro e w11 ⟨rfl, hb11⟩
  go_wp2_with fail
  refine (same_is a _ true HSU.out (by unfold maxLen; omega) (by unfold maxLen; show U.length ≤ _; omega) _).mono ?_
  rintro e w12 ⟨rfl, hb12⟩
  go_wp2_with fail
  refine (same_is a b r HR.out (by unfold maxLen; omega) (by unfold maxLen; omega) _).mono ?_
  rintro e w13 ⟨rfl, hb13⟩
  go_wp2_with fail
  refine (same_is b a r HR2.out (by unfold maxLen; omega) (by unfold maxLen; omega) _).mono ?_
  rintro e w14 ⟨rfl, hb14⟩
  go_wp2_with fail
  refine (same_is a b r HR.out (by unfold maxLen; omega) (by unfold maxLen; omega) _).mono ?_
  rintro e w15 ⟨rfl, hb15⟩
  have n := Nat.le_refl w.heap.size
  have hbel := Lib.hid (bel (bel (bel (bel (bel (bel (bel (bel (bel (bel (bel (bel (bel (bel hb1 hb2 n) hb3 n) hb4 n) hb5 n) hb6 n) hb7 n) hb8 n) hb9 n) hb10 n) hb11 n) hb12 n) hb13 n) hb14 n) hb15 n)
  clear hb1 hb2 hb3 hb4 hb5 hb6 hb7 hb8 hb9 hb10 hb11 hb12 hb13 hb14 hb15 n
  cases r with
  | false =>
    go_wp2
    go_ret
    exact ⟨rfl, hbel.out⟩
  | true =>
    have hsz : ((a.size : Int) == (b.size : Int)) = true := by rw [HRS.out rfl]; simp
    go_wp2
    go_ret
    exact ⟨rfl, hbel.out⟩
end Go.Proofs.Ytdpmobikelcafaa
