import Derived.Test.YthdodmbopchfdaaUtfB
namespace Go.Proofs.Ythdodmbopchfdaa
open Go.RowKit
/-- v is a slice of the runes l in w -/
theorem enc_take (l : List Int) (k : Nat) (h : k < l.length) : U.enc (l.take (k + 1)) = U.enc (l.take k) ++ U.encR l[k] := by
  rw [take_snoc l k h, U.enc_app, U.enc_cons, U.enc_nil, List.append_nil]
theorem enc_take_len (l : List Int) (k : Nat) (h : k ≤ l.length) : (U.enc (l.take k)).length ≤ 4 * k := by
  have := U.enc_len (l.take k)
  rw [List.length_take_of_le h] at this
  exact this
set_option maxHeartbeats 2000000 in
theorem encode_runes (v : Value) (l : List Int) (T : List UInt8) (hT : U.enc l = T) (hl : 4 * l.length ≤ 140737488355328) (w : World) (hv : RunesAt w v l) :
    Calls Try.prog 26 #[v] w fun e w' => e = .returned (.string ⟨T.toArray⟩) ∧ Below w.heap.size w w' := by
  obtain ⟨p, cap, rfl, hc⟩ := hv
  have HC := Lib.hid hc
  have HT := Lib.hid hT
  clear hc hT
  go_enter Try.func26, Try.ntmps26
  go_wp2_with fail
  go_loopw [3, 11] (fun m i wr => ∃ (k n : Nat), k ≤ l.length ∧ i = .int .i64 k ∧ m = .int .i64 n ∧ Hid ((U.enc (l.take k)).length = n) ∧ n ≤ 4 * k ∧ wr = w) (fun _ i _ => l.length - (intOf i).toNat)
  case atStart => exact ⟨0, 0, by omega, rfl, rfl, Lib.hid rfl, by omega, rfl⟩
  case round =>
    obtain ⟨k, n, hk, rfl, rfl, HN, hn, rfl⟩ := hrel
    by_cases hlt : k < l.length
    · obtain ⟨g, o, rfl, hg, hx⟩ := HC.out k l[k] (get_some hlt)
      have HE := Lib.hid (enc_take l k hlt)
      have hw := U.encR_len l[k]
      obtain ⟨L, HL⟩ : ∃ L, Hid ((U.encR l[k]).length = L) := ⟨_, Lib.hid rfl⟩
      rw [HL.out] at hw
      generalize l[k] = x at *
      go_wp2_with fail
      refine (width_is x L HL.out _).mono ?_
      rintro e w' ⟨rfl, rfl⟩
      go_wp2
      exact ⟨⟨k + 1, n + L, by omega, by go_num, by go_num, Lib.hid (by rw [HE.out, List.length_append, HN.out, HL.out]), by omega, trivial⟩, by simp [intOf]; omega⟩
    · have HF := Lib.hid (show T.length = n by rw [← HT.out, ← HN.out, List.take_of_length_le (by omega)])
      have hblk := heap_alloc_new wr (.cells #[.pointer none, .slice none 0 0] 66)
      go_wp2_with fail
      refine (grow_any wr.heap.size wr.heap.size n _ (Nat.le_refl _) hblk (by simp) (by omega)).mono ?_
      rintro e w1 ⟨rfl, hb1, hbel1⟩
      have hbel := ((Below.refl wr.heap.size wr).alloc (Nat.le_refl _) (.cells #[.pointer none, .slice none 0 0] 66)).trans hbel1
      clear hbel1 hblk HN
      obtain ⟨w0, rfl⟩ : ∃ w0 : World, w0 = wr := ⟨_, rfl⟩
      go_wp2_with fail
      go_loopw [24] (fun i wr2 => ∃ (k : Nat), k ≤ l.length ∧ i = .int .i64 k ∧ Bld w0.heap.size w0.heap.size (U.enc (l.take k)) wr2 ∧ Below w0.heap.size w0 wr2) (fun i _ => l.length - (intOf i).toNat)
      case atStart => exact ⟨0, by omega, rfl, hb1, hbel⟩
      case round =>
        clear hb1 hbel
        obtain ⟨k, hk, rfl, hb, hbel⟩ := hrel
        have hsz := hbel.size
        by_cases hlt : k < l.length
        · obtain ⟨g, o, rfl, hg, hx⟩ := HC.out k l[k] (get_some hlt)
          have HE := Lib.hid (enc_take l k hlt)
          have hel := enc_take_len l k (by omega)
          generalize l[k] = x at *
          have hx2 : wr.cell? ⟨g, o + k, none⟩ = some (.int .i32 x) := (hbel.cell (p := ⟨g, o + k, none⟩) hg).trans hx
          go_wp2_with fail
          refine (put_any w0.heap.size w0.heap.size (U.enc (l.take k)) x _ hb (by omega) (by omega)).mono ?_
          rintro e w3 ⟨rfl, hb3, hbel3, _⟩
          go_wp2
          go_roundw
          case rel =>
            exact ⟨k + 1, by omega, by go_num, by rw [HE.out]; exact hb3, hbel.trans hbel3⟩
          case measure => simp [intOf]; omega
        · have HF2 := Lib.hid (show U.enc (l.take k) = T by rw [← HT.out, List.take_of_length_le (by omega)])
          rw [HF2.out] at hb
          go_wp2_with fail
          refine (string_any w0.heap.size w0.heap.size T _ hb (by omega)).mono ?_
          rintro e w3 ⟨rfl, hbel3⟩
          go_wp2
          go_ret
          exact ⟨rfl, hbel.trans hbel3⟩
end Go.Proofs.Ythdodmbopchfdaa
