/-
  The walk of bastionlaw02.UtfBack: it answers true for every list of at most 1048576 runes and every text of at most 1048576 bytes, and changes nothing that was there.
-/
import Derived.Test.YtdpmobikelcafaaUtfQ
namespace Go.Proofs.Ytdpmobikelcafaa
open Go.RowKit
theorem grownBy_refl (w : World) (row : Option Nat) : w.grownBy w row := ⟨rfl, rfl, rfl, Nat.le_refl _, fun _ _ _ => rfl⟩
theorem own_news {w : World} {base g cap m : Nat} {ys : List Value} (h : w.ownsRow base 21 1 (.slice (some ⟨g, 0, none⟩) m cap) m ys) : ∀ j u, ys[j]? = some u → w.cell? ((⟨g, 0, none⟩ : Addr).add j) = some u := by
  intro j u hj
  have e : (⟨g, 0, none⟩ : Addr).add j = ⟨g, j, none⟩ := by unfold Addr.add; split <;> simp_all
  have hl := h.1
  have hjl : j < ys.length := (List.getElem?_eq_some_iff.1 hj).1
  rw [e, h.cellAt j (by omega), hj]
theorem wpList_append_from {P : Program} {w : World} {ops : Array Oper} {rest : List Oper} {o : Oper} {a : Act} {Q : Exit → Act → World → Prop} (hgd : Region.wanted o (yielded ops a.tmps) = true) (s x : Operand)
    (ho : o.op = .call { callee := .builtin .append, args := #[s, x], argTypes := #[40, 40] })
    (base base2 : Nat) (i : TypeInfo) (ht : P.underlying 40 = some (.slice 21)) (hi : P.info? 21 = some i) (hz : i.zero = some (.int .i32 0)) (hsize : i.size = 1) (hby : i.bytes = 4)
    (v : Value) (n : Nat) (xs : List Value) (hs : a.eval s = v) (hown : w.ownsRow base 21 1 v n xs) (v2 : Value) (m : Nat) (ys : List Value) (hx : a.eval x = v2) (h2 : w.ownsRow base2 21 1 v2 m ys) (h1 : ∀ u ∈ ys, u.oneCell' = true)
    (h63 : n + m ≤ maxLen) (hbytes : (n + m) * 4 ≤ 140737488355328) (hbase : base ≤ w.heap.size)
    (h : ∀ v' w', w'.ownsRow base 21 1 v' (n + m) (xs ++ ys) → w.grownBy w' v.ownBlock → wpList P ops Q rest (a.put o.dst v') w') : wpList P ops Q (o :: rest) a w := by
  refine wpList_step fun K hK => ?_
  rw [if_pos hgd]
  rcases id h2.2 with ⟨rfl, rfl⟩ | ⟨g, cap, cur, rfl, _⟩
  · have hy : ys = [] := List.eq_nil_of_length_eq_zero (by have := h2.1; omega)
    subst hy
    have hrun := run_append_owned_none (P := P) (w := w) base 40 o.type 21 i 1 ht hi v n xs hown
    unfold Oper.wp
    simp [execOp, ho, resolve, invoke, builtin, hs, hx, hrun, Result.andThen]
    refine hK _ _ (h v w ?_ (grownBy_refl _ _))
    rw [List.append_nil]; exact hown
  · exact wp_append_own w s x 40 ho base 21 i (.int .i32 0) 1 4 ht hi hz hsize hby rfl (by decide) v n xs hs hown ⟨g, 0, none⟩ m cap ys hx h2.1 (own_news h2) h1 h63 hbytes hbase (fun v' w' a b _ => hK _ _ (h v' w' a b))
theorem may_split (r : Int) : (r < 0) ∨ (0 ≤ r ∧ r < 55296) ∨ (55296 ≤ r ∧ r ≤ 57343) ∨ (57343 < r ∧ r ≤ 1114111) ∨ 1114111 < r := by omega
theorem rep_bad {r : Int} (h : ¬ U.May r) : U.rep r = 65533 := if_neg h
theorem own_later {w w' : World} {base n : Nat} {v : Value} {xs : List Value} (h : w.ownsRow base 21 1 v n xs) (hb : Below w.heap.size w w') : w'.ownsRow base 21 1 v n xs := by
  refine ⟨h.1, ?_⟩
  rcases h.2 with h0 | ⟨g, cap, cur, hv, hB, hg, rest⟩
  · exact .inl h0
  · exact .inr ⟨g, cap, cur, hv, hB, (hb.block g (Array.getElem?_eq_some_iff.1 hg).1).trans hg, rest⟩
set_option maxRecDepth 20000 in
set_option maxHeartbeats 8000000 in
theorem UtfBack_walk (v : Value) (l : List Int) (hl : l.length ≤ 1048576) (u : ByteArray) (hu : u.size ≤ 1048576) (w : World) (hv : RunesAt w v l) :
    Calls Try.prog 13 #[v, .string u] w fun e w' => e = .returned (.bool true) ∧ Below w.heap.size w w' := by
  obtain ⟨i0, hinf, hz0, hz1, hz2⟩ := info_parts infoRune
  obtain ⟨T, HT⟩ : ∃ T, Hid (U.enc l = T) := ⟨_, Lib.hid rfl⟩
  have hTl : T.length ≤ 4 * l.length := by rw [← HT.out]; exact U.enc_len l
  obtain ⟨G, HG⟩ : ∃ G, Hid (l.map U.rep = G) := ⟨_, Lib.hid rfl⟩
  have hGl : G.length = l.length := by rw [← HG.out, List.length_map]
  obtain ⟨A, HA⟩ : ∃ A, Hid (U.runesZ u.data.toList = A) := ⟨_, Lib.hid rfl⟩
  have hAl : A.length ≤ u.size := by have := (U.runes_count u.data.toList).1; rw [len_list, HA.out] at this; exact this
  obtain ⟨S, HS⟩ : ∃ S, Hid (U.scal u.data.toList = S) := ⟨_, Lib.hid rfl⟩
  have hSl : S.length ≤ 4 * A.length := by rw [← HS.out, ← HA.out]; exact U.enc_len _
  have K1 : Hid (U.runesZ T = G) := Lib.hid (by rw [← HT.out, ← HG.out]; exact U.runesZ_of_enc l)
  have K2 : Hid (U.good T = true) := Lib.hid (by rw [← HT.out]; exact U.good_enc l)
  have K3 : Hid (U.scal T = T) := Lib.hid (by rw [← HT.out]; exact U.scal_enc l)
  have K4 : Hid (U.runesZ (T ++ u.data.toList) = G ++ A) := Lib.hid (by rw [← HT.out, ← HG.out, ← HA.out]; exact U.runesZ_enc l _)
  have K5 : Hid (U.good S = true) := Lib.hid (by rw [← HS.out]; exact U.good_scal_of _)
  have K6 : Hid (U.scal S = S) := Lib.hid (by rw [← HS.out]; exact U.scal_scal _)
  have K7 : Hid (U.enc A = S) := Lib.hid (by rw [← HA.out, ← HS.out]; rfl)
  obtain ⟨p, cap, rfl, hc⟩ := id hv
  have HC := Lib.hid hc
  clear hc
  go_enter Try.func13, Try.ntmps13
  go_wp2_with fail
  refine (lives2 _).mono ?_
  rintro e w1 ⟨rfl, hb1⟩
  go_wp2_with fail
  refine (encode_runes _ l T HT.out (by omega) _ (hv.below hb1)).mono ?_
  rintro e w2 ⟨rfl, hb2⟩
  go_wp2_with fail
  refine (decode_runes ⟨T.toArray⟩ G K1.out (by show T.length * 4 ≤ _; omega) _).mono ?_
  rintro e w3 ⟨v3, rfl, hr3, hb3⟩
  obtain ⟨p3, cap3, rfl, hc3⟩ := id hr3.at
  have HC3 := Lib.hid hc3
  have HR3 := Lib.hid hr3
  clear hc3 hr3
  rw [hGl]
  go_wp2_with fail
  refine (valid_is ⟨T.toArray⟩ true K2.out (by show T.length ≤ _; unfold maxLen; omega) _).mono ?_
  rintro e w4 ⟨rfl, hb4⟩
  go_wp2_with fail
  refine (scalar_is ⟨T.toArray⟩ T K3.out (by show T.length * 4 ≤ _; omega) _).mono ?_
  rintro e w5 ⟨rfl, hb5⟩
  have hb35 := bel2 hb4 hb5
  have hbw := bel2 (bel2 (bel2 hb1 hb2) hb3) hb35
  clear hb1 hb2 hb3 hb4 hb5
  go_wp2_with fail
  obtain ⟨W, hW⟩ : ∃ W, W = w5 := ⟨_, rfl⟩
  go_loopw [7, 39] (fun m i wr => ∃ (k n : Nat), k ≤ l.length ∧ i = .int .i64 k ∧ m = .int .i64 n ∧ Hid ((U.enc (l.take k)).length = n) ∧ n ≤ 4 * k ∧ wr = W) (fun _ i _ => l.length - (intOf i).toNat)
  case atStart => exact ⟨0, 0, by omega, rfl, rfl, Lib.hid rfl, by omega, hW.symm⟩
  case round =>
    obtain ⟨k, n, hk, rfl, rfl, HN, hn, rfl⟩ := hrel
    subst hW
    by_cases hlt : k < l.length
    · obtain ⟨g, o, rfl, hg, hx0⟩ := HC.out k l[k] (get_some hlt)
      have hx := (hbw.cell (p := ⟨g, o + k, none⟩) hg).trans hx0
      have HE := Lib.hid (enc_take l k hlt)
      have hw := U.encR_len l[k]
      have hGk : G[k]? = some (U.rep l[k]) := by rw [← HG.out, List.getElem?_map, get_some hlt]; rfl
      have hkg : k < G.length := by omega
      obtain ⟨L, HL⟩ : ∃ L, Hid ((U.encR l[k]).length = L) := ⟨_, Lib.hid rfl⟩
      rw [HL.out] at hw
      generalize l[k] = x at *
      have hms := may_split x
      by_cases hm : U.May x
      · have hrep : U.rep x = x := U.may_rep hm
        have hmm : (0 ≤ x ∧ x < 55296) ∨ (57343 < x ∧ x ≤ 1114111) := hm
        rw [hrep] at hGk
        obtain ⟨g3, o3, rfl, hg3, hx3⟩ := HC3.out k x hGk
        have hy3 := (hb35.cell (p := ⟨g3, o3 + k, none⟩) hg3).trans hx3
        clear hms hm hrep hGk hx0 hx3
        rcases hmm with ⟨m1, m2⟩ | ⟨m1, m2⟩
        · go_wp2_with fail
          refine (width_is x L HL.out _).mono ?_
          rintro e w' ⟨rfl, rfl⟩
          go_wp2
          exact ⟨⟨k + 1, n + L, by omega, by go_num, by go_num, Lib.hid (by rw [HE.out, List.length_append, HN.out, HL.out]), by omega, by first | trivial | rfl⟩, by simp [intOf]; omega⟩
        · have m3 : ¬ x < 55296 := by omega
          have m4 : 0 ≤ x := by omega
          go_wp2_with fail
          refine (width_is x L HL.out _).mono ?_
          rintro e w' ⟨rfl, rfl⟩
          go_wp2
          exact ⟨⟨k + 1, n + L, by omega, by go_num, by go_num, Lib.hid (by rw [HE.out, List.length_append, HN.out, HL.out]), by omega, by first | trivial | rfl⟩, by simp [intOf]; omega⟩
      · rw [rep_bad hm] at hGk
        obtain ⟨g3, o3, rfl, hg3, hx3⟩ := HC3.out k 65533 hGk
        have hy3 := (hb35.cell (p := ⟨g3, o3 + k, none⟩) hg3).trans hx3
        have hmm : x < 0 ∨ (55296 ≤ x ∧ x ≤ 57343) ∨ 1114111 < x := by unfold U.May at hm; omega
        clear hms hm hGk hx0 hx3
        rcases hmm with m1 | ⟨m1, m2⟩ | m1
        · have m2 : ¬ 0 ≤ x := by omega
          have m3 : ¬ 57343 < x := by omega
          go_wp2_with fail
          refine (width_is x L HL.out _).mono ?_
          rintro e w' ⟨rfl, rfl⟩
          go_wp2
          exact ⟨⟨k + 1, n + L, by omega, by go_num, by go_num, Lib.hid (by rw [HE.out, List.length_append, HN.out, HL.out]), by omega, by first | trivial | rfl⟩, by simp [intOf]; omega⟩
        · have m3 : ¬ x < 55296 := by omega
          have m4 : ¬ 57343 < x := by omega
          have m5 : 0 ≤ x := by omega
          go_wp2_with fail
          refine (width_is x L HL.out _).mono ?_
          rintro e w' ⟨rfl, rfl⟩
          go_wp2
          exact ⟨⟨k + 1, n + L, by omega, by go_num, by go_num, Lib.hid (by rw [HE.out, List.length_append, HN.out, HL.out]), by omega, by first | trivial | rfl⟩, by simp [intOf]; omega⟩
        · have m3 : ¬ x < 55296 := by omega
          have m4 : 57343 < x := by omega
          have m5 : 0 ≤ x := by omega
          have m6 : ¬ x ≤ 1114111 := by omega
          go_wp2_with fail
          refine (width_is x L HL.out _).mono ?_
          rintro e w' ⟨rfl, rfl⟩
          go_wp2
          exact ⟨⟨k + 1, n + L, by omega, by go_num, by go_num, Lib.hid (by rw [HE.out, List.length_append, HN.out, HL.out]), by omega, by first | trivial | rfl⟩, by simp [intOf]; omega⟩
    · have HF := Lib.hid (show n = T.length by rw [← HT.out, ← HN.out, List.take_of_length_le (by omega)])
      clear HN
      rw [HF.out]
      obtain ⟨W, rfl⟩ : ∃ W2 : World, W2 = wr := ⟨_, rfl⟩
      go_wp2_with fail
      refine (decode_runes u A HA.out (by omega) _).mono ?_
      rintro e w6 ⟨v6, rfl, hr6, hb6⟩
      obtain ⟨p6, cap6, rfl, hc6⟩ := id hr6.at
      go_wp2_with fail
      have hszT : ((⟨T.toArray⟩ : ByteArray) ++ u).size = T.length + u.size := by rw [ByteArray.size_append]; rfl
      refine (decode_runes (⟨T.toArray⟩ ++ u) (G ++ A) (by rw [ByteArray.data_append, Array.toList_append]; exact K4.out) (by rw [hszT]; omega) _).mono ?_
      rintro e w7 ⟨v7, rfl, hr7, hb7⟩
      have hA7 := hr7.at
      have hbw7 := bel2 (bel2 hbw hb6) hb7
      have r3 := HR3.out.1
      rw [hGl] at r3
      have hb67 := hb7
      have r3' := own_later (own_later (own_later r3 hb35) hb6) hb7
      have r6' := own_later hr6.1 hb7
      have hE := own_empty w7
      have hBe : Below w7.heap.size w7 (w7.alloc (.cells #[] 21)) := (Below.refl _ w7).alloc (Nat.le_refl _) _
      have r3e := own_later r3' hBe
      have hAone := runes_one A
      have hGone := runes_one G
      go_wp2_with (first
        | (at_builtin; refine wpList_append_from (by rfl) _ _ rfl w7.heap.size w2.heap.size i0 Try.underlying40 hinf hz0 hz1 hz2 _ 0 [] rfl hE _ l.length (G.map (Value.int .i32)) rfl r3e hGone (by unfold maxLen; omega) (by omega) (by simp) ?_; intro v8 w8 ho8 hg8; have HO8 := Lib.hid ho8; have hb78 : Below w7.heap.size w7 w8 := hBe.grown hg8 (by simp) (fun k hk => by have e : some w7.heap.size = some k := hk; simp only [Option.some.injEq] at e; omega); have r6e := own_later r6' hb78; have hq8 := hb78.size; clear ho8 hg8 hE)
        | (at_builtin; refine wpList_append_from (by rfl) _ _ rfl w7.heap.size W.heap.size i0 Try.underlying40 hinf hz0 hz1 hz2 _ (0 + l.length) ([] ++ G.map (Value.int .i32)) rfl HO8.out _ A.length (A.map (Value.int .i32)) rfl r6e hAone (by unfold maxLen; omega) (by omega) (by omega) ?_; intro v9 w9 ho9 hg9; have HO9 := Lib.hid ho9; have hb79 : Below w7.heap.size w7 w9 := hb78.grown hg9 (by omega) (fun k hk => (HO8.out.lt k hk).1); clear ho9 hg9))
      have hA9 : RunesAt w9 v9 (G ++ A) := own_runes (by have := HO9.out; rw [List.length_append, List.map_append, hGl]; simpa using this)
      refine (same_is _ _ (G ++ A) (G ++ A) true (by simp) (by rw [List.length_append]; omega) _ hA9 (hA7.below hb79)).mono ?_
      rintro e w10 ⟨rfl, hb10⟩
      have r6w := own_later (own_later r6' hb79) hb10
      have hbx := bel2 (bel2 hbw7 hb79) hb10
      have hW10 : Below W.heap.size W w10 := bel2 (bel2 (bel2 hb6 hb7) hb79) hb10
      go_wp2_with fail
      go_loopw [105] (fun i wr => ∃ (k : Nat), k ≤ A.length ∧ i = .int .i64 k ∧ (∃ xs, wr.ownsRow W.heap.size 21 1 (.slice p6 A.length cap6) A.length xs) ∧ Below w.heap.size w wr) (fun i _ => A.length - (intOf i).toNat)
      case atStart => exact ⟨0, by omega, rfl, ⟨_, r6w⟩, hbx⟩
      case round =>
        obtain ⟨k2, hk2, rfl, ⟨xs, hrow⟩, hbel⟩ := hrel
        have hwW := hbw.size
        by_cases hlt2 : k2 < A.length
        · obtain ⟨g, rfl⟩ : ∃ g, p6 = some ⟨g, 0, none⟩ := by
            rcases hrow.2 with ⟨e, h0⟩ | ⟨g, cap', cur, e, _⟩
            · omega
            · simp only [Value.slice.injEq] at e
              exact ⟨g, e.1⟩
          have hlx := hrow.1
          have hcl : wr.cell? ⟨g, k2, none⟩ = some (xs[k2]'(by omega)) := by rw [hrow.cellAt k2 (by omega), List.getElem?_eq_getElem]
          have hfz := hrow.frozenAt k2
          have hst := hrow.stored k2 (.int .i32 120)
          have hgW : W.heap.size ≤ g := by
            rcases hrow.2 with ⟨e, h0⟩ | ⟨g', cap', cur, e, hB, _⟩
            · omega
            · simp only [Value.slice.injEq, Option.some.injEq, Addr.mk.injEq] at e
              omega
          have hBn : Below w.heap.size w (wr.setCell ⟨g, k2, none⟩ (.int .i32 120)) := hbel.grown hst.2 hbel.size (fun k hk => by simp only [Option.some.injEq] at hk; omega)
          have HST := Lib.hid hst.1
          clear hst hrow
          generalize xs[k2]'(by omega) = xo at hcl
          go_wp2
          exact ⟨⟨k2 + 1, by omega, by go_num, ⟨_, HST.out⟩, hBn⟩, by simp [intOf]; omega⟩
        · obtain ⟨BB, HGU⟩ : ∃ b, Hid (U.good u.data.toList = b) := ⟨_, Lib.hid rfl⟩
          have hiff := U.good_iff u.data.toList
          rw [HS.out, HGU.out] at hiff
          have hEq : (S == u.toList) = BB := by
            cases BB with
            | true => rw [beq_iff_eq, ByteArray.toList_eq]; exact hiff.1 rfl
            | false => rw [beq_eq_false_iff_ne, ByteArray.toList_eq]; intro e; have := hiff.2 e; cases this
          clear hiff
          go_wp2_with fail
          refine (scalar_is u S HS.out (by omega) _).mono ?_
          rintro e w11 ⟨rfl, hb11⟩
          go_wp2_with fail
          refine (valid_is ⟨S.toArray⟩ true K5.out (by show S.length ≤ _; unfold maxLen; omega) _).mono ?_
          rintro e w12 ⟨rfl, hb12⟩
          go_wp2_with fail
          refine (scalar_is ⟨S.toArray⟩ S K6.out (by show S.length * 4 ≤ _; omega) _).mono ?_
          rintro e w13 ⟨rfl, hb13⟩
          go_wp2_with fail
          refine (valid_is u BB HGU.out (by unfold maxLen; omega) _).mono ?_
          rintro e w14 ⟨rfl, hb14⟩
          go_wp2_with fail
          refine (decode_runes u A HA.out (by omega) _).mono ?_
          rintro e w15 ⟨v15, rfl, hr15, hb15⟩
          go_wp2_with fail
          refine (encode_runes _ A S K7.out (by omega) _ hr15.at).mono ?_
          rintro e w16 ⟨rfl, hb16⟩
          go_wp2
          go_ret
          exact ⟨rfl, bel2 (bel2 (bel2 (bel2 (bel2 (bel2 hbel hb11) hb12) hb13) hb14) hb15) hb16⟩
end Go.Proofs.Ytdpmobikelcafaa
