import Derived.Test.YthdodmbopchfdaaLW
namespace Go.Proofs.Ythdodmbopchfdaa
open Go.RowKit P
set_option maxRecDepth 100000 in
set_option maxHeartbeats 4000000 in
theorem PunyApart_walk (va vb : Value) (la lb : List Int) (ha : 4 * la.length ≤ 140737488355328) (hb : 4 * lb.length ≤ 140737488355328) (w : World) (hA : RunesAt w va la) (hB : RunesAt w vb lb) :
    Calls Try.prog 5 #[va, vb] w fun e w' => e = .returned (.bool true) ∧ Below w.heap.size w w' := by
  obtain ⟨U, hU⟩ : ∃ U, (⟨((encS la).1.map u8).toArray⟩ : ByteArray) = U := ⟨_, rfl⟩
  obtain ⟨c, hc⟩ : ∃ c, (encS la).2 = c := ⟨_, rfl⟩
  obtain ⟨U', hU'⟩ : ∃ U, (⟨((encS lb).1.map u8).toArray⟩ : ByteArray) = U := ⟨_, rfl⟩
  obtain ⟨c', hc'⟩ : ∃ c, (encS lb).2 = c := ⟨_, rfl⟩
  have HEq : Hid (c = 0 → c' = 0 → (U = U' ↔ la = lb)) := Lib.hid (fun h h' => by
    constructor
    · intro e
      have h1 : encS la = ((encS la).1, 0) := by rw [← h, ← hc]
      have h2 : encS lb = ((encS lb).1, 0) := by rw [← h', ← hc']
      refine encS_inj h1 h2 ?_
      rw [← hU, ← hU'] at e
      have := congrArg (fun b : ByteArray => b.data.toList) e
      simpa using this
    · intro e
      rw [← hU, ← hU', e])
  have HU := Lib.hid hU
  have HC := Lib.hid hc
  have HU' := Lib.hid hU'
  have HC' := Lib.hid hc'
  have HA := Lib.hid hA
  have HB := Lib.hid hB
  obtain ⟨pa, ca, rfl, _⟩ := id hA
  obtain ⟨pb, cb, rfl, _⟩ := id hB
  clear hU hc hU' hc' hA hB
  go_enter Try.func5, Try.ntmps5
  go_wp2_with fail
  refine (lives_is _).mono ?_
  rintro e w1 ⟨rfl, hb1⟩
  have HB1 := Lib.hid hb1
  clear hb1
  go_wp2_with fail
  refine (encode_is la _ (by omega) _ (HA.out.below HB1.out)).mono ?_
  intro e w2 hr
  obtain ⟨rfl, hb2⟩ := encRes_uc hr HU.out HC.out
  have HB2 := Lib.hid (bel2 HB1.out hb2)
  clear hr hb2
  go_wp2_with fail
  refine (encode_is lb _ (by omega) _ (HB.out.below HB2.out)).mono ?_
  intro e w3 hr
  obtain ⟨rfl, hb3⟩ := encRes_uc hr HU'.out HC'.out
  have HB3 := Lib.hid (bel2 HB2.out hb3)
  clear hr hb3
  by_cases h1 : c = 0
  · by_cases h2 : c' = 0
    · obtain ⟨q, hq⟩ : ∃ q : Bool, decide (la = lb) = q := ⟨_, rfl⟩
      have HQ := Lib.hid hq
      subst h1 h2
      have hs2 : (U.toList == U'.toList) = q := by
        rw [← hq, Bool.eq_iff_iff, beq_iff_eq, decide_eq_true_iff, ← HEq.out rfl rfl, ByteArray.toList_eq, ByteArray.toList_eq]
        constructor
        · intro h
          apply ByteArray.ext
          exact Array.toList_inj.1 h
        · intro h; rw [h]
      clear hq
      cases q with
      | true =>
        go_wp2_with fail
        refine (same_is _ _ la lb true HQ.out (by omega) _ (HA.out.below HB3.out) (HB.out.below HB3.out)).mono ?_
        rintro e w4 ⟨rfl, hb4⟩
        go_wp2
        go_ret
        exact ⟨rfl, bel2 HB3.out hb4⟩
      | false =>
        go_wp2_with fail
        refine (same_is _ _ la lb false HQ.out (by omega) _ (HA.out.below HB3.out) (HB.out.below HB3.out)).mono ?_
        rintro e w4 ⟨rfl, hb4⟩
        go_wp2
        go_ret
        exact ⟨rfl, bel2 HB3.out hb4⟩
    · have hne : (c' != 0) = true := by simpa using h2
      subst h1
      go_wp2
      go_ret
      exact ⟨rfl, HB3.out⟩
  · have hne : (c != 0) = true := by simpa using h1
    go_wp2
    go_ret
    exact ⟨rfl, HB3.out⟩
theorem encS_why {l : List Int} (h : l.map U.rep = l) : (encS l).2 = 0 ∨ (encS l).2 = 10 ∨ (encS l).2 = 3 := by
  unfold encS
  by_cases h1 : 4096 < l.length
  · rw [if_pos h1]; exact .inr (.inr rfl)
  · rw [if_neg h1, if_neg (by simpa using h)]
    unfold encM
    split
    · exact .inr (.inl rfl)
    · exact .inl rfl
set_option maxRecDepth 100000 in
set_option maxHeartbeats 4000000 in
theorem PunyOnce_walk (u : ByteArray) (hu : u.size ≤ 140737488351232) (w : World) :
    Calls Try.prog 6 #[.string u] w fun e w' => e = .returned (.bool true) ∧ Below w.heap.size w w' := by
  obtain ⟨L, c, hL⟩ : ∃ L c, decS u = (L, c) := ⟨_, _, rfl⟩
  have HL := Lib.hid hL
  by_cases hc : c = 0
  · subst hc
    obtain ⟨hm, _⟩ := decS_ok hL
    have hwhy := encS_why hm
    obtain ⟨U, hU⟩ : ∃ U, (⟨((encS L).1.map u8).toArray⟩ : ByteArray) = U := ⟨_, rfl⟩
    obtain ⟨c2, hc2⟩ : ∃ c, (encS L).2 = c := ⟨_, rfl⟩
    rw [hc2] at hwhy
    have HU := Lib.hid hU
    have HC2 := Lib.hid hc2
    have hLl : L.length ≤ 140737488355328 := rlen_ok hL
    have HOnce : Hid (c2 = 0 → U.size ≤ 4096 → decS U = (L, 0)) := Lib.hid (fun h h4 => by
      refine once (r := (encS L).1) hL (by rw [← h, ← hc2]) ?_ h4
      rw [← hU])
    clear hL hm hU hc2
    go_enter Try.func6, Try.ntmps6
    go_wp2_with fail
    refine (lives_is _).mono ?_
    rintro e w1 ⟨rfl, hb1⟩
    go_wp2_with fail
    refine (decode_is u (by unfold maxLen; omega) L 0 HL.out _).mono ?_
    rintro e w2 ⟨v2, rfl, hA2, _, hb2⟩
    obtain ⟨p2, q2, rfl, _⟩ := id hA2
    have HA2 := Lib.hid hA2
    have HB2 := Lib.hid (bel2 hb1 hb2)
    clear hA2 hb1 hb2
    go_wp2_with fail
    refine (encode_is L _ (by omega) _ HA2.out).mono ?_
    intro e w3 hr
    obtain ⟨rfl, hb3⟩ := encRes_uc hr HU.out HC2.out
    have HB3 := Lib.hid (bel2 HB2.out hb3)
    have HA3 := Lib.hid (HA2.out.below hb3)
    clear hr hb3
    rcases hwhy with h | h | h
    · by_cases hs : U.size ≤ 4096
      · have HO := Lib.hid (HOnce.out h hs)
        subst h
        go_wp2_with fail
        refine (decode_is U (by unfold maxLen; omega) L 0 HO.out _).mono ?_
        rintro e w4 ⟨v4, rfl, hA4, _, hb4⟩
        obtain ⟨p4, q4, rfl, _⟩ := id hA4
        go_wp2_with fail
        refine (same_is _ _ L L true (by simp) hLl _ hA4 (HA3.out.below hb4)).mono ?_
        rintro e w5 ⟨rfl, hb5⟩
        go_wp2
        go_ret
        exact ⟨rfl, bel2 (bel2 HB3.out hb4) hb5⟩
      · subst h
        go_wp2
        go_ret
        exact ⟨rfl, HB3.out⟩
    · subst h
      go_wp2
      go_ret
      exact ⟨rfl, HB3.out⟩
    · subst h
      go_wp2
      go_ret
      exact ⟨rfl, HB3.out⟩
  · have hL0 := decS_nil hL hc
    subst hL0
    have hne : (c != 0) = true := by simpa using hc
    clear hL
    go_enter Try.func6, Try.ntmps6
    go_wp2_with fail
    refine (lives_is _).mono ?_
    rintro e w1 ⟨rfl, hb1⟩
    go_wp2_with fail
    refine (decode_is u (by unfold maxLen; omega) [] c HL.out _).mono ?_
    rintro e w2 ⟨v2, rfl, hA2, hv2, hb2⟩
    have hv3 := hv2 rfl hc
    subst hv3
    go_wp2
    go_ret
    exact ⟨rfl, bel2 hb1 hb2⟩
end Go.Proofs.Ythdodmbopchfdaa
