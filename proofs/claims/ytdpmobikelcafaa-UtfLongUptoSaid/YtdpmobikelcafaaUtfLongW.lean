import Derived.Test.YtdpmobikelcafaaUtfK
namespace Go.Proofs.Ytdpmobikelcafaa
open Go.RowKit
namespace U
theorem encR_one (r : Int) (h : (encR r).length = 1) : 0 ≤ r ∧ r ≤ 127 := by
  by_cases hm : May r
  · have hr : (0 ≤ r ∧ r < 55296) ∨ (57343 < r ∧ r ≤ 1114111) := hm
    by_cases h1 : r ≤ 127
    · omega
    · by_cases h2 : r ≤ 2047
      · rw [encR2 (by omega) h2] at h; simp at h
      · by_cases h3 : r ≤ 65535
        · rw [encR3 (by omega)] at h; simp at h
        · rw [encR4 (by omega) (by omega)] at h; simp at h
  · rw [encR_bad hm] at h; simp at h
theorem enc_ge (l : List Int) : l.length ≤ (enc l).length := by
  induction l with
  | nil => simp [enc]
  | cons r l ih =>
    have := encR_len r
    rw [enc_cons, List.length_append, List.length_cons]; omega
theorem enc_plain (l : List Int) (h : (enc l).length = l.length) : ∀ c ∈ enc l, c.toNat < 128 := by
  induction l with
  | nil => intro c hc; simp [enc] at hc
  | cons r l ih =>
    have h1 := encR_len r
    have h2 := enc_ge l
    rw [enc_cons, List.length_append, List.length_cons] at h
    have h3 := encR_one r (by omega)
    intro c hc
    rw [enc_cons, List.mem_append] at hc
    rcases hc with hc | hc
    · rw [encR1 h3.1 h3.2] at hc
      simp only [List.mem_singleton] at hc
      subst hc
      rw [u8_nat (by omega)]; omega
    · exact ih (by omega) c hc
theorem not_plain (l : List UInt8) (h : ¬ ∀ c ∈ l, c.toNat < 128) : (runesZ l).length < l.length ∨ good l = false := by
  by_cases hg : good l = true
  · have hs := (good_iff l).1 hg
    have hc := (runes_count l).1
    left
    have hne : (runesZ l).length ≠ l.length := by
      intro e
      apply h
      have he : (enc (runesZ l)).length = (runesZ l).length := by
        rw [e]; exact congrArg List.length hs
      intro c hc
      have := enc_plain _ he
      have hs2 : enc (runesZ l) = l := hs
      rw [hs2] at this
      exact this c hc
    omega
  · right; simpa using hg
end U
theorem all_snoc (u : ByteArray) (k : Nat) (h : k < u.size) : (∀ c ∈ u.data.toList.take (k + 1), c.toNat < 128) ↔ (∀ c ∈ u.data.toList.take k, c.toNat < 128) ∧ u[k].toNat < 128 := by
  rw [take_snoc _ _ (by rw [len_list]; exact h)]
  constructor
  · intro H
    exact ⟨fun c hc => H c (List.mem_append.2 (.inl hc)), H _ (List.mem_append.2 (.inr (by simp; rfl)))⟩
  · rintro ⟨H1, H2⟩ c hc
    rcases List.mem_append.1 hc with hc | hc
    · exact H1 c hc
    · simp only [List.mem_singleton] at hc; subst hc; exact H2
set_option maxRecDepth 20000 in
set_option maxHeartbeats 4000000 in
theorem UtfLong_walk (u : ByteArray) (hu : u.size ≤ 1048576) (w : World) :
    Calls Try.prog 14 #[.string u] w fun e w' => e = .returned (.bool true) ∧ Below w.heap.size w w' := by
  obtain ⟨l, hl⟩ : ∃ l, U.runesZ u.data.toList = l := ⟨_, rfl⟩
  have hcnt := U.runes_count u.data.toList
  rw [len_list, hl] at hcnt
  have HP := Lib.hid (U.not_plain u.data.toList)
  have HA := Lib.hid (U.runes_ascii u.data.toList)
  have HL := Lib.hid hl
  obtain ⟨n1, n2⟩ := hcnt
  clear hl
  go_enter Try.func14, Try.ntmps14
  go_wp2_with fail
  refine (lives2 _).mono ?_
  rintro e w1 ⟨rfl, hb1⟩
  go_wp2_with fail
  refine (decode_runes u l HL.out (by omega) _).mono ?_
  rintro e w2 ⟨v, rfl, hr2, hb2⟩
  have hA := hr2.at
  have hbw := bel2 hb1 hb2
  clear hb1 hb2 hr2
  obtain ⟨p, cap, rfl, hc⟩ := hA
  have HC := Lib.hid hc
  clear hc
  have b1 : decide ((u.size : Int) < (l.length : Int)) = false := decide_eq_false (by omega)
  have b3 : decide ((4 : Int) * (l.length : Int) < (u.size : Int)) = false := decide_eq_false (by omega)
  have hd : (0 < u.size ∧ ((l.length : Int) == 0) = false) ∨ (¬ 0 < u.size ∧ decide ((0 : Int) < (u.size : Int)) = false) := by
    by_cases hz : 0 < u.size
    · exact .inl ⟨hz, by rw [beq_eq_false_iff_ne]; omega⟩
    · exact .inr ⟨hz, decide_eq_false (by omega)⟩
  rcases hd with ⟨hz, b2⟩ | ⟨hz, b2⟩
  all_goals
    go_wp2_with fail
    clear b2 hz
    go_loopw [4, 5] (fun pl i wr => ∃ (k : Nat) (b : Bool), k ≤ u.size ∧ i = .int .i64 k ∧ pl = .bool b ∧ Hid (b = true ↔ ∀ c ∈ u.data.toList.take k, c.toNat < 128) ∧ wr = w2) (fun _ i _ => u.size - (intOf i).toNat)
    case atStart => exact ⟨0, true, by omega, rfl, rfl, Lib.hid (by simp), rfl⟩
    case round =>
      obtain ⟨k, b, hk, rfl, rfl, HB, rfl⟩ := hrel
      by_cases hlt : k < u.size
      · have HS := Lib.hid (all_snoc u k hlt)
        have hcc := u[k].toNat_lt
        cases b with
        | true =>
          by_cases hc : u[k].toNat < 128
          · have HN := Lib.hid (show (true = true ↔ ∀ c ∈ u.data.toList.take (k + 1), c.toNat < 128) by rw [HS.out, ← HB.out]; simp [hc])
            have hcb : decide ((u[k].toNat : Int) < 128) = true := decide_eq_true (by omega)
            go_wp2
            exact ⟨⟨k + 1, true, by omega, by go_num, rfl, HN, trivial⟩, by simp [intOf]; omega⟩
          · have HN := Lib.hid (show (false = true ↔ ∀ c ∈ u.data.toList.take (k + 1), c.toNat < 128) by rw [HS.out, ← HB.out]; simp [hc])
            have hcb : decide ((u[k].toNat : Int) < 128) = false := decide_eq_false (by omega)
            go_wp2
            exact ⟨⟨k + 1, false, by omega, by go_num, rfl, HN, trivial⟩, by simp [intOf]; omega⟩
        | false =>
          have HN := Lib.hid (show (false = true ↔ ∀ c ∈ u.data.toList.take (k + 1), c.toNat < 128) by rw [HS.out, ← HB.out]; simp)
          go_wp2
          exact ⟨⟨k + 1, false, by omega, by go_num, rfl, HN, trivial⟩, by simp [intOf]; omega⟩
      · have HF := Lib.hid (show (b = true ↔ ∀ c ∈ u.data.toList, c.toNat < 128) by
          have := HB.out
          rw [List.take_of_length_le (by rw [len_list]; omega)] at this
          exact this)
        cases b with
        | false =>
          have hnp := HP.out (fun h => by have := HF.out.2 h; cases this)
          rw [HL.out, len_list] at hnp
          by_cases hlu : l.length < u.size
          · clear hnp
            go_wp2
            go_ret
            exact ⟨rfl, hbw⟩
          · have hg : U.good u.data.toList = false := by
              rcases hnp with h | h
              · exact absurd h hlu
              · exact h
            have hlb : decide ((l.length : Int) < (u.size : Int)) = false := decide_eq_false (by omega)
            go_wp2_with fail
            refine (valid_is u false hg (by unfold maxLen; omega) _).mono ?_
            rintro e w3 ⟨rfl, hb3⟩
            go_wp2
            go_ret
            exact ⟨rfl, bel2 hbw hb3⟩
        | true =>
          have hmap : l = u.data.toList.map (fun c => (c.toNat : Int)) := by rw [← HL.out]; exact HA.out (HF.out.1 rfl)
          have hlen : l.length = u.size := by rw [hmap, List.length_map, len_list]
          have HM := Lib.hid hmap
          clear hmap
          have hle : ((l.length : Int) != (u.size : Int)) = false := by simp [hlen]
          go_wp2_with fail
          obtain ⟨W, rfl⟩ : ∃ W : World, W = wr := ⟨_, rfl⟩
          go_loopw [62] (fun i wr2 => ∃ (k : Nat), k ≤ l.length ∧ i = .int .i64 k ∧ wr2 = W) (fun i _ => l.length - (intOf i).toNat)
          case atStart => exact ⟨0, by omega, rfl, rfl⟩
          case round =>
            obtain ⟨k, hk, rfl, rfl⟩ := hrel
            by_cases hlt : k < l.length
            · obtain ⟨g, o, rfl, hg, hx⟩ := HC.out k l[k] (get_some hlt)
              have hks : k < u.size := by omega
              have hxe : l[k] = (u[k].toNat : Int) := by
                have := get_some hlt
                conv at this => lhs; rw [HM.out]
                rw [List.getElem?_map, List.getElem?_eq_getElem (by rw [len_list]; exact hks)] at this
                simp only [Option.map_some, Option.some.injEq] at this
                exact this.symm
              rw [hxe] at hx
              clear hxe
              have hcc := u[k].toNat_lt
              go_wp2
              exact ⟨⟨k + 1, by omega, by go_num, trivial⟩, by simp [intOf]; omega⟩
            · go_wp2
              go_ret
              exact ⟨rfl, hbw⟩
end Go.Proofs.Ytdpmobikelcafaa
