/-
  The walks of the four statements of puny: each answers true for every input within the form's reach, and changes nothing that was there.
-/
import Derived.Test.YthdodmbopchfdaaLM
import Derived.Test.YthdodmbopchfdaaQH
namespace Go.Proofs.Ythdodmbopchfdaa
open Go.RowKit P
theorem rdecode_is (u : ByteArray) (hu : u.size ≤ maxLen) (L : List Int) (c : Int) (hL : decS u = (L, c)) (w : World) : Calls Try.prog 12 #[.string u] w (decRes L c w) := by
  by_cases h : u.size ≤ 4096
  · exact rdecode_go u h L c hL w
  · have := rdecode_long u (by omega) hu w
    rw [hL] at this
    exact this
theorem rencode_is (l : List Int) (va : Value) (hl : l.length ≤ 9223372036854775807) (w : World) (hA : RunesAt w va l) (hwf0 : ∀ x ∈ l, -2147483648 ≤ x ∧ x ≤ 2147483647) : Calls Try.prog 8 #[va] w (encRes l w) := by
  by_cases h : 4096 < l.length
  · exact rencode_many l va h hl w hA
  · exact rencode_go l va (by omega) w hA hwf0
theorem encRes_uc {l : List Int} {U : ByteArray} {c : Int} {w w' : World} {e : Ending} (h : encRes l w e w') (hU : (⟨((encS l).1.map u8).toArray⟩ : ByteArray) = U) (hc : (encS l).2 = c) : e = .returned (.tuple #[.string U, .int .i64 c]) ∧ Below w.heap.size w w' := by
  unfold encRes at h
  rw [hU, hc] at h; exact h
theorem wpList_append_big {w : World} {ops : Array Oper} {rest : List Oper} {o : Oper} {a : Act} {Q : Exit → Act → World → Prop} (hgd : o.guard = none) (s x : Operand)
    (ho : o.op = .call { callee := .builtin .append, args := #[s, x], argTypes := #[22, 22] })
    (B : Nat) (v : Value) (l : List Int) (hs : a.eval s = v) (hown : Own w B v l) (v2 : Value) (l2 : List Int) (hx : a.eval x = v2) (h2 : RunesAt w v2 l2) (hn2 : ∀ n c, v2 = .slice none n c → n = 0 ∧ c = 0)
    (hlen : (l.length + l2.length) * 4 ≤ 140737488355328) (hbase : B ≤ w.heap.size)
    (h : ∀ v' w', Own w' B v' (l ++ l2) → w.grownBy w' v.ownBlock → wpList Try.prog ops Q rest (a.put o.dst v') w') : wpList Try.prog ops Q (o :: rest) a w := by
  obtain ⟨i0, hi, hz0, hz1, hz2⟩ := info_parts infoRune
  obtain ⟨p, cap, rfl, _⟩ := id h2
  cases p with
  | none =>
    obtain ⟨e1, e2⟩ := hn2 _ _ rfl
    have hy : l2 = [] := List.eq_nil_of_length_eq_zero e1
    subst hy e2
    have hrun := run_append_owned_none (P := Try.prog) (w := w) B 22 o.type 21 i0 1 Try.underlying22 hi v l.length _ hown
    refine wpList_plain hgd fun K hK => ?_
    unfold Oper.wp
    simp [execOp, ho, resolve, invoke, builtin, hs, hx, hrun, Result.andThen]
    refine hK _ _ (h v w ?_ ⟨rfl, rfl, rfl, Nat.le_refl _, fun _ _ _ => rfl⟩)
    simpa using hown
  | some ad =>
    have hlm : (l2.map (Value.int .i32)).length = l2.length * 1 := by simp
    refine wpList_append_own_at w hgd s x 22 ho B 21 i0 (.int .i32 0) 1 4 Try.underlying22 hi hz0 hz1 hz2 rfl (by decide) v l.length _ hs hown ad l2.length cap _ hx hlm (runes_news h2).2 (one_map _) (by unfold maxLen; omega) hlen hbase (fun v' w' a1 b1 _ d1 => h v' w' ?_ b1)
    unfold Own
    rw [List.length_append, List.map_append]
    exact a1
set_option maxRecDepth 100000 in
set_option maxHeartbeats 4000000 in
theorem PunyWrites_walk (va : Value) (l : List Int) (hl : 4 * l.length ≤ 140737488355328) (hwf : ∀ x ∈ l, -2147483648 ≤ x ∧ x ≤ 2147483647) (w : World) (hA : RunesAt w va l) (hn : ∀ n c, va = .slice none n c → n = 0 ∧ c = 0) :
    Calls Try.prog 3 #[va] w fun e w' => e = .returned (.bool true) ∧ Below w.heap.size w w' := by
  obtain ⟨U, hU⟩ : ∃ U, (⟨((encS l).1.map u8).toArray⟩ : ByteArray) = U := ⟨_, rfl⟩
  obtain ⟨c, hc⟩ : ∃ c, (encS l).2 = c := ⟨_, rfl⟩
  have HU := Lib.hid hU
  have HC := Lib.hid hc
  have HW := Lib.hid hwf
  have HN := Lib.hid hn
  have hb0 := bnew w (.cells #[] 21)
  have HA := Lib.hid hA
  have HA0 := Lib.hid (hA.below hb0)
  have HE := Lib.hid (own_empty w w.heap.size (Nat.le_refl _))
  obtain ⟨pa, ca, rfl, _⟩ := id hA
  clear hU hc hwf hn hA
  go_enter Try.func3, Try.ntmps3
  go_wp2_with (refine wpList_append_big (by rfl) (.tmp 8) (.tmp 9) (by rfl) w.heap.size (.slice (some ⟨w.heap.size, 0, none⟩) 0 0) [] (by rfl) HE.out _ l (by rfl) HA0.out HN.out (by simp; omega) (by simp) ?_; intro v8 w8 ho8 hg8; have HO8 : Hid (Own w8 w.heap.size v8 l) := Lib.hid (by simpa using ho8); have HB8 : Hid (Below w.heap.size w w8) := Lib.hid (hb0.grown hg8 (by simp) (fun k hk => by have e2 : some w.heap.size = some k := hk; simp only [Option.some.injEq] at e2; omega)); clear ho8 hg8)
  obtain ⟨p8, q8, hv8, _⟩ := HO8.out.form
  subst hv8
  refine (encode_is l _ (by omega) _ (own_at HO8.out)).mono ?_
  intro e w9 hr
  obtain ⟨rfl, hb9⟩ := encRes_uc hr HU.out HC.out
  have HB9 := Lib.hid (bel2 HB8.out hb9)
  have HO9 := Lib.hid (HO8.out.to hb9)
  clear hr hb9
  go_wp2_with fail
  refine (rencode_is l _ (by omega) _ (HA.out.below HB9.out) HW.out).mono ?_
  intro e w10 hr
  obtain ⟨rfl, hb10⟩ := encRes_uc hr HU.out HC.out
  have HB10 := Lib.hid (bel2 HB9.out hb10)
  have HO10 := Lib.hid (HO9.out.to hb10)
  clear hr hb10
  go_wp2_with fail
  refine (lives_is _).mono ?_
  rintro e w11 ⟨rfl, hb11⟩
  have HB11 := Lib.hid (bel2 HB10.out hb11)
  have HO11 := Lib.hid (HO10.out.to hb11)
  clear hb11
  go_wp2_with fail
  refine (same_is _ _ l l true (by simp) (by omega) _ (own_at HO11.out) (HA.out.below HB11.out)).mono ?_
  rintro e w12 ⟨rfl, hb12⟩
  go_wp2
  go_ret
  exact ⟨rfl, bel2 HB11.out hb12⟩
theorem rlen_ok {u : ByteArray} {L : List Int} (hL : decS u = (L, 0)) : L.length ≤ 140737488355328 := by
  obtain ⟨h1, h2, ds, vs, n, i, B, hR, hv, _⟩ := decS_ok hL
  have e1 := run_len hR
  have e2 := congrArg List.length hv
  rw [List.length_map, List.length_map] at e2
  have e3 : ∀ {ds o : List Int} {n i B : Int} {out bas : List Int}, Run bas ds o n i B out → ds.length ≤ o.length := by
    intro ds o n i B out bas h
    induction h with
    | start => simp
    | @step ds o n i B out δ hr h0 ih =>
      obtain ⟨x, t, e⟩ := digs_ne δ B
      rw [e]; simp; omega
  have e4 := e3 hR
  have e5 : (toInts (plainL u)).length ≤ u.size := by
    unfold toInts plainL
    rw [List.length_map]
    exact Nat.le_trans (List.length_take_le' _ _) (by rw [Array.length_toList]; exact Nat.le_refl _)
  have e6 : (numsL u).length ≤ u.size := by
    unfold numsL
    rw [List.length_drop, Array.length_toList]
    exact Nat.sub_le _ _
  have e7 : u.size ≤ 4096 := by
    apply Classical.byContradiction
    intro hn
    unfold decS at hL
    rw [if_pos (by omega)] at hL
    simp at hL
  omega
set_option maxRecDepth 100000 in
set_option maxHeartbeats 4000000 in
theorem PunyReads_walk (u : ByteArray) (hu : u.size ≤ 140737488351232) (w : World) :
    Calls Try.prog 4 #[.string u] w fun e w' => e = .returned (.bool true) ∧ Below w.heap.size w w' := by
  obtain ⟨L, c, hL⟩ : ∃ L c, decS u = (L, c) := ⟨_, _, rfl⟩
  have HL := Lib.hid hL
  have hLl : L.length ≤ 140737488355328 := by
    by_cases hc : c = 0
    · subst hc; exact rlen_ok hL
    · rw [decS_nil hL hc]; simp
  clear hL
  go_enter Try.func4, Try.ntmps4
  go_wp2_with fail
  refine (decode_is u (by unfold maxLen; omega) L c HL.out _).mono ?_
  rintro e w1 ⟨v1, rfl, hA1, _, hb1⟩
  obtain ⟨p1, c1, rfl, _⟩ := id hA1
  go_wp2_with fail
  refine (rdecode_is u (by unfold maxLen; omega) L c HL.out _).mono ?_
  rintro e w2 ⟨v2, rfl, hA2, _, hb2⟩
  obtain ⟨p2, c2, rfl, _⟩ := id hA2
  have hA12 := hA1.below hb2
  have HB2 := Lib.hid (bel2 hb1 hb2)
  clear hA1 hb1 hb2
  go_wp2_with fail
  refine (lives_is _).mono ?_
  rintro e w3 ⟨rfl, hb3⟩
  go_wp2_with fail
  refine (same_is _ _ L L true (by simp) hLl _ (hA12.below hb3) (hA2.below hb3)).mono ?_
  rintro e w4 ⟨rfl, hb4⟩
  go_wp2
  go_ret
  exact ⟨rfl, bel2 (bel2 HB2.out hb3) hb4⟩
end Go.Proofs.Ythdodmbopchfdaa
