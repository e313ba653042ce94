/-
  The walk of bastiontop.TopBytes: it answers true for every list of at most 1048576 runes and every set byte, and changes nothing that was there.
-/
import Derived.Test.YtdpmobikelcafaaUtfK
import Derived.Test.YtdpmobikelcafaaPctBackW
import Derived.Test.YtdpmobikelcafaaPctPlainW
namespace Go.Proofs.Ytdpmobikelcafaa
open Go.RowKit
theorem begins_any (w : World) : Calls Try.prog 42 #[] w fun e w' => e = .returned (.bool true) ∧ Below w.heap.size w w' := by
  go_enter Try.func42, Try.ntmps42
  go_wp2_with fail
  refine (decode_is ⟨#[37, 52, 49]⟩ [65] (by decide +kernel) (by decide) _).mono ?_
  rintro e w1 ⟨rfl, hb1⟩
  go_wp2_with fail
  refine (live_low _).mono ?_
  rintro e w2 ⟨rfl, hb2⟩
  go_wp2
  go_ret
  exact ⟨rfl, bel2 hb1 hb2⟩
theorem in_small : ∀ s, s < 9 → ∀ c, c < 256 → (decide (s = 0) || M.inB s c || decide (c ≤ 126)) = true := by decide +kernel
theorem hexU_small : ∀ n, n < 16 → (M.hexU n).toNat ≤ 126 := by decide +kernel
theorem enc_small (s : Nat) (h1 : 1 ≤ s) (h8 : s ≤ 8) (t : List UInt8) : ∀ c ∈ M.enc s t, c.toNat ≤ 126 := by
  intro c hc
  rcases M.enc_mem s t c hc with rfl | h
  · decide
  · have := in_small s (by omega) c.toNat c.toNat_lt
    rw [h] at this
    simp at this
    omega
theorem dec_enc_ok (s : Nat) (t : List UInt8) (h : (∀ c ∈ t, c ≠ 37) ∨ M.inB s 37 = true) : M.dec (M.enc s t) = t := by
  cases h37 : M.inB s 37 with
  | true => exact M.dec_enc_sign s h37 t
  | false =>
    rcases h with h | h
    · rw [M.dec_enc_none s h37 _ t (Nat.le_refl _)]
      exact dec_plain t h
    · rw [h37] at h; cases h
theorem snoc_37 (T : List UInt8) (c37 b b' : Bool) (k : Nat) (h : k < T.length) (hb : b = true ↔ (∃ c ∈ T.take k, c = 37) ∧ c37 = false) (hb' : b' = (b || (decide (T[k] = 37) && !c37))) : b' = true ↔ (∃ c ∈ T.take (k + 1), c = 37) ∧ c37 = false := by
  subst hb'
  rw [take_snoc _ _ h]
  cases b with
  | true =>
    obtain ⟨⟨c, hc, e⟩, h2⟩ := hb.1 rfl
    simp only [Bool.true_or, true_iff]
    exact ⟨⟨c, List.mem_append.2 (.inl hc), e⟩, h2⟩
  | false =>
    constructor
    · intro hh
      simp at hh
      exact ⟨⟨_, List.mem_append.2 (.inr (by simp)), hh.1⟩, hh.2⟩
    · rintro ⟨⟨c, hc, e⟩, h2⟩
      rcases List.mem_append.1 hc with hc | hc
      · exact absurd (hb.2 ⟨⟨c, hc, e⟩, h2⟩) (by simp)
      · simp only [List.mem_singleton] at hc
        subst hc
        simp [e, h2]
set_option maxRecDepth 20000 in
set_option maxHeartbeats 4000000 in
theorem TopBytes_walk (v : Value) (l : List Int) (hl : l.length ≤ 1048576) (s0 : Int) (hs0 : (Lit.int .u8 s0).wf = true) (w : World) (hv : RunesAt w v l) :
    Calls Try.prog 16 #[v, .int .u8 s0] w fun e w' => e = .returned (.bool true) ∧ Below w.heap.size w w' := by
  have hy : 0 ≤ s0 ∧ s0 ≤ 255 := by simpa [Lit.wf, IntKind.min, IntKind.max, IntKind.signed, IntKind.bits] using hs0
  obtain ⟨s, rfl⟩ := Int.eq_ofNat_of_zero_le hy.1
  have hs : s < 256 := by omega
  clear hs0 hy
  obtain ⟨T, HT⟩ : ∃ T, Hid (U.enc l = T) := ⟨_, Lib.hid rfl⟩
  have hTl : T.length ≤ 4 * l.length := by rw [← HT.out]; exact U.enc_len l
  have hv0 := hv
  obtain ⟨p, cap, rfl, _⟩ := hv0
  by_cases hbad : s = 0 ∨ 9 ≤ s
  · go_enter Try.func16, Try.ntmps16
    go_wp2_with fail
    refine (begins_any _).mono ?_
    rintro e w1 ⟨rfl, hb1⟩
    go_wp2_with fail
    refine (encode_runes _ l T HT.out (by omega) _ (hv.below hb1)).mono ?_
    rintro e w2 ⟨rfl, hb2⟩
    go_wp2_with fail
    refine (encode_bad _ s hs hbad _).mono ?_
    rintro e w3 ⟨rfl, rfl⟩
    go_wp2
    go_ret
    exact ⟨rfl, bel2 hb1 hb2⟩
  · have h1 : 1 ≤ s := by omega
    have h8 : s ≤ 8 := by omega
    clear hbad
    obtain ⟨X, HX⟩ : ∃ X, Hid (M.enc s T = X) := ⟨_, Lib.hid rfl⟩
    have hXl : X.length ≤ 3 * T.length := by rw [← HX.out]; exact enc_len s T
    have HM := Lib.hid (show ∀ c ∈ X, c.toNat ≤ 126 by rw [← HX.out]; exact enc_small s h1 h8 T)
    obtain ⟨c37, H37⟩ : ∃ b, Hid (M.inB s 37 = b) := ⟨_, Lib.hid rfl⟩
    go_enter Try.func16, Try.ntmps16
    go_wp2_with fail
    refine (begins_any _).mono ?_
    rintro e w1 ⟨rfl, hb1⟩
    go_wp2_with fail
    refine (encode_runes _ l T HT.out (by omega) _ (hv.below hb1)).mono ?_
    rintro e w2 ⟨rfl, hb2⟩
    go_wp2_with fail
    refine (encode_is ⟨T.toArray⟩ X s HX.out (by show 3 * T.length ≤ _; omega) h1 h8 _).mono ?_
    rintro e w3 ⟨rfl, hb3⟩
    have hbel := bel2 (bel2 hb1 hb2) hb3
    clear hb1 hb2 hb3 hv
    go_wp2_with fail
    go_loopw [8] (fun i wr => ∃ k : Nat, k ≤ X.length ∧ i = .int .i64 k ∧ wr = w3) (fun i _ => X.length - (intOf i).toNat)
    case atStart => exact ⟨0, by omega, rfl, rfl⟩
    case round =>
      obtain ⟨k, hk, rfl, rfl⟩ := hrel
      by_cases hlt : k < X.length
      · have hm : ((⟨X.toArray⟩ : ByteArray)[k]'hlt).toNat ≤ 126 := HM.out (⟨X.toArray⟩ : ByteArray).data.toList[k] (List.getElem_mem hlt)
        have hmb : decide ((126 : Int) < (((⟨X.toArray⟩ : ByteArray)[k]'hlt).toNat : Int)) = false := decide_eq_false (by omega)
        go_wp2
        exact ⟨⟨k + 1, by omega, by go_num, trivial⟩, by simp [intOf]; omega⟩
      · obtain ⟨w3, rfl⟩ : ∃ W : World, W = wr := ⟨_, rfl⟩
        go_wp2_with fail
        go_loopw [9, 10] (fun pl i wr => ∃ (k : Nat) (b : Bool), k ≤ T.length ∧ i = .int .i64 k ∧ pl = .bool b ∧ Hid (b = true ↔ (∃ c ∈ T.take k, c = 37) ∧ c37 = false) ∧ Below w.heap.size w wr) (fun _ i _ => T.length - (intOf i).toNat)
        case atStart => exact ⟨0, false, by omega, rfl, rfl, Lib.hid (by simp), hbel⟩
        case round =>
          clear hbel
          obtain ⟨k, b, hk, rfl, rfl, HB, hbel⟩ := hrel
          by_cases hlt : k < T.length
          · have HS := Lib.hid (fun b' => snoc_37 T c37 b b' k hlt HB.out)
            have hte : (⟨T.toArray⟩ : ByteArray)[k]'hlt = T[k] := rfl
            cases b with
            | true =>
              have HN := Lib.hid (HS.out true rfl)
              go_wp2
              exact ⟨⟨k + 1, true, by omega, by go_num, rfl, HN, hbel⟩, by simp [intOf]; omega⟩
            | false =>
              by_cases he : T[k] = 37
              · have HN := Lib.hid (HS.out (!c37) (by simp [he]))
                have z0 : ((((⟨T.toArray⟩ : ByteArray)[k]'hlt).toNat : Int) == 37) = true := by rw [hte, he]; rfl
                clear he hte
                go_wp2_with fail
                refine (in_int s 37 37 c37 rfl H37.out hs (by omega) _).mono ?_
                rintro e w4 ⟨rfl, hb4⟩
                go_wp2
                exact ⟨⟨k + 1, !c37, by omega, by go_num, rfl, HN, bel2 hbel hb4⟩, by simp [intOf]; omega⟩
              · have HN := Lib.hid (HS.out false (by simp [he]))
                have z0 : ((((⟨T.toArray⟩ : ByteArray)[k]'hlt).toNat : Int) == 37) = false := by
                  rw [beq_eq_false_iff_ne, hte]; intro e; exact he (UInt8.toNat_inj.1 (by show _ = 37; omega))
                clear he hte
                go_wp2
                exact ⟨⟨k + 1, false, by omega, by go_num, rfl, HN, hbel⟩, by simp [intOf]; omega⟩
          · have HF := HB.out
            rw [List.take_of_length_le (by omega)] at HF
            cases b with
            | true =>
              go_wp2
              go_ret
              exact ⟨rfl, hbel⟩
            | false =>
              have HD := Lib.hid (show M.dec X = T by
                rw [← HX.out]
                apply dec_enc_ok
                cases hc : c37 with
                | true => right; rw [H37.out, hc]
                | false =>
                  left
                  intro c hcm e
                  have := HF.2 ⟨⟨c, hcm, e⟩, hc⟩
                  cases this)
              clear HF
              go_wp2_with fail
              refine (decode_is ⟨X.toArray⟩ T HD.out (by show X.length ≤ _; omega) _).mono ?_
              rintro e w5 ⟨rfl, hb5⟩
              go_wp2_with fail
              refine (decode_is ⟨X.toArray⟩ T HD.out (by show X.length ≤ _; omega) _).mono ?_
              rintro e w6 ⟨rfl, hb6⟩
              go_wp2_with fail
              refine (decode_runes ⟨T.toArray⟩ (l.map U.rep) (by rw [← U.runesZ_of_enc, HT.out]) (by show T.length * 4 ≤ _; omega) _).mono ?_
              rintro e w7 ⟨v7, rfl, hr7, hb7⟩
              obtain ⟨p7, cap7, rfl, _⟩ := hr7.at
              have hml : (l.map U.rep).length = l.length := List.length_map _
              have hbw := bel2 (bel2 (bel2 hbel hb5) hb6) hb7
              rw [hml]
              go_wp2
              go_ret
              exact ⟨rfl, hbw⟩
end Go.Proofs.Ytdpmobikelcafaa
