/-
  The walk of bastionlaw02.UtfJoins: it answers true for every two lists of runes of bulk at most 1048576 and every int, and changes nothing that was there.
-/
import Derived.Test.YtdpmobikelcafaaUtfBackW
import Derived.Test.YtdpmobikelcafaaReg
namespace Go.Proofs.Ytdpmobikelcafaa
open Go.RowKit
theorem wpList_append_runes {P : Program} {w : World} {ops : Array Oper} {rest : List Oper} {o : Oper} {a : Act} {Q : Exit → Act → World → Prop} (hgd : Region.wanted o (yielded ops a.tmps) = true) (s x : Operand)
    (ho : o.op = .call { callee := .builtin .append, args := #[s, x], argTypes := #[40, 40] })
    (base : Nat) (i : TypeInfo) (ht : P.underlying 40 = some (.slice 21)) (hi : P.info? 21 = some i) (hz : i.zero = some (.int .i32 0)) (hsize : i.size = 1) (hby : i.bytes = 4)
    (v : Value) (n : Nat) (xs : List Value) (hs : a.eval s = v) (hown : w.ownsRow base 21 1 v n xs) (v2 : Value) (l2 : List Int) (hx : a.eval x = v2) (h2 : RunesAt w v2 l2) (hn2 : ∀ n c, v2 = .slice none n c → n = 0 ∧ c = 0)
    (h63 : n + l2.length ≤ maxLen) (hbytes : (n + l2.length) * 4 ≤ 140737488355328) (hbase : base ≤ w.heap.size)
    (h : ∀ v' w', w'.ownsRow base 21 1 v' (n + l2.length) (xs ++ l2.map (Value.int .i32)) → w.grownBy w' v.ownBlock → wpList P ops Q rest (a.put o.dst v') w') : wpList P ops Q (o :: rest) a w := by
  refine wpList_step fun K hK => ?_
  rw [if_pos hgd]
  obtain ⟨p, cap, rfl, _⟩ := id h2
  cases p with
  | none =>
    obtain ⟨e1, e2⟩ := hn2 _ _ rfl
    have hy : l2 = [] := List.eq_nil_of_length_eq_zero e1
    subst hy e2
    have hrun := run_append_owned_none (P := P) (w := w) base 40 o.type 21 i 1 ht hi v n xs hown
    unfold Oper.wp
    simp [execOp, ho, resolve, invoke, builtin, hs, hx, hrun, Result.andThen]
    refine hK _ _ (h v w ?_ (grownBy_refl _ _))
    simpa using hown
  | some ad =>
    have hlm : (l2.map (Value.int .i32)).length = l2.length * 1 := by simp
    exact wp_append_own w s x 40 ho base 21 i (.int .i32 0) 1 4 ht hi hz hsize hby rfl (by decide) v n xs hs hown ad l2.length cap (l2.map (Value.int .i32)) hx hlm (runes_news h2).2 (runes_one _) h63 hbytes hbase (fun v' w' a b _ => hK _ _ (h v' w' a b))
theorem rep_may (r : Int) : U.May (U.rep r) := by
  unfold U.rep
  split
  · assumption
  · unfold U.May; omega
theorem enc_rep (l : List Int) : U.enc (l.map U.rep) = U.enc l := by
  induction l with
  | nil => rfl
  | cons r l ih => rw [List.map_cons, U.enc_cons, U.enc_cons, U.encR_rep, ih]
theorem take_runes {w : World} {p : Option Addr} {M cap N : Nat} {G : List Int} (h : RunesAt w (.slice p M cap) G) (hN : N ≤ M) : RunesAt w (.slice p N cap) (G.take N) := by
  obtain ⟨p', c', e, hc⟩ := h
  simp only [Value.slice.injEq] at e
  obtain ⟨rfl, rfl, rfl⟩ := e
  refine ⟨p, cap, by rw [List.length_take_of_le hN], fun k x hk => hc k x ?_⟩
  by_cases hkN : k < N
  · rw [List.getElem?_take_of_lt hkN] at hk; exact hk
  · rw [List.getElem?_eq_none (by rw [List.length_take_of_le hN]; omega)] at hk; cases hk
theorem drop_runes {w : World} {p : Option Addr} {M cap N : Nat} {G : List Int} (h : RunesAt w (.slice p M cap) G) (hN : N ≤ M) (hM : M ≤ cap) : RunesAt w (.slice (if cap = N then p else p.map (fun x => x.add N)) (M - N) (cap - N)) (G.drop N) := by
  obtain ⟨p', c', e, hc⟩ := h
  simp only [Value.slice.injEq] at e
  obtain ⟨rfl, rfl, rfl⟩ := e
  refine ⟨_, cap - N, by rw [List.length_drop], fun k x hk => ?_⟩
  have hkl := (List.getElem?_eq_some_iff.1 hk).1
  rw [List.length_drop] at hkl
  rw [List.getElem?_drop] at hk
  obtain ⟨g, o, rfl, hg, hx⟩ := hc _ x hk
  rw [if_neg (by omega)]
  have e2 : (⟨g, o, none⟩ : Addr).add N = ⟨g, o + N, none⟩ := by
    unfold Addr.add
    by_cases hk0 : N = 0
    · simp [hk0]
    · simp [hk0]
  refine ⟨g, o + N, by simp [e2], hg, ?_⟩
  rw [Nat.add_assoc]; exact hx
def slJ (i : Nat) : Nat := if i = 22 then 6 else 34 + i
def VJ (p : Option Addr) (M cap N : Nat) (G : List Int) (E1 E2 T : List UInt8) (i : Nat) (v : Value) (w : World) : Prop :=
  match i with
  | 0 => v = .slice p M cap
  | 1 => v = .int .i64 (N : Int)
  | 2 => RunesAt w v (G.take N)
  | 3 => v = .string ⟨E1.toArray⟩
  | 4 => RunesAt w v (G.take N)
  | 5 => v = .slice p M cap
  | 6 => v = .int .i64 (N : Int)
  | 7 => RunesAt w v (G.take N)
  | 10 => v = .slice p M cap
  | 11 => v = .int .i64 (N : Int)
  | 12 => RunesAt w v (G.take N)
  | 13 => v = .string ⟨E1.toArray⟩
  | 14 => v = .slice p M cap
  | 15 => v = .int .i64 (N : Int)
  | 16 => RunesAt w v (G.drop N)
  | 17 => v = .string ⟨E2.toArray⟩
  | 18 => v = .string ⟨T.toArray⟩
  | 19 => v = .string ⟨T.toArray⟩
  | _ => v = .bool true
theorem VJ_mono (p : Option Addr) (M cap N : Nat) (G : List Int) (E1 E2 T : List UInt8) : ∀ (i : Nat) (v : Value) (w w' : World), VJ p M cap N G E1 E2 T i v w → Below w.heap.size w w' → VJ p M cap N G E1 E2 T i v w'
  | 2, _, _, _, h, hb => RunesAt.below h hb
  | 4, _, _, _, h, hb => RunesAt.below h hb
  | 7, _, _, _, h, hb => RunesAt.below h hb
  | 12, _, _, _, h, hb => RunesAt.below h hb
  | 16, _, _, _, h, hb => RunesAt.below h hb
  | 0, _, _, _, h, _ => h
  | 1, _, _, _, h, _ => h
  | 3, _, _, _, h, _ => h
  | 5, _, _, _, h, _ => h
  | 6, _, _, _, h, _ => h
  | 8, _, _, _, h, _ => h
  | 9, _, _, _, h, _ => h
  | 10, _, _, _, h, _ => h
  | 11, _, _, _, h, _ => h
  | 13, _, _, _, h, _ => h
  | 14, _, _, _, h, _ => h
  | 15, _, _, _, h, _ => h
  | 17, _, _, _, h, _ => h
  | 18, _, _, _, h, _ => h
  | 19, _, _, _, h, _ => h
  | _ + 20, _, _, _, h, _ => h
theorem tmp_some2 {a : Act} {k : Nat} {b : Bool} (h : a.eval (.tmp k) = .bool b) : a.tmps[k]? = some (.bool b) := by
  have e : a.tmps.getD k undef = .bool b := h
  rw [Array.getD_eq_getD_getElem?] at e
  cases hk : a.tmps[k]? with
  | none => rw [hk] at e; cases e
  | some x => rw [hk] at e; rw [show x = .bool b from e]
set_option maxRecDepth 20000 in
set_option maxHeartbeats 8000000 in
theorem UtfJoins_walk (va : Value) (la : List Int) (hla : la.length ≤ 1048576) (vb : Value) (lb : List Int) (hlb : lb.length ≤ 1048576) (n : Int) (_hn : (Lit.int .i64 n).wf = true) (w : World)
    (hva : RunesAt w va la) (ea : ∀ n c, va = .slice none n c → n = 0 ∧ c = 0) (hvb : RunesAt w vb lb) (eb : ∀ n c, vb = .slice none n c → n = 0 ∧ c = 0) :
    Calls Try.prog 15 #[va, vb, .int .i64 n] w fun e w' => e = .returned (.bool true) ∧ Below w.heap.size w w' := by
  obtain ⟨i0, hinf, hz0, hz1, hz2⟩ := info_parts infoRune
  obtain ⟨Ta, HTa⟩ : ∃ T, Hid (U.enc la = T) := ⟨_, Lib.hid rfl⟩
  obtain ⟨Tb, HTb⟩ : ∃ T, Hid (U.enc lb = T) := ⟨_, Lib.hid rfl⟩
  have hTa : Ta.length ≤ 4 * la.length := by rw [← HTa.out]; exact U.enc_len la
  have hTb : Tb.length ≤ 4 * lb.length := by rw [← HTb.out]; exact U.enc_len lb
  have KE : Hid (U.enc (la ++ lb) = Ta ++ Tb) := Lib.hid (by rw [U.enc_app, HTa.out, HTb.out])
  obtain ⟨G, HG⟩ : ∃ G, Hid ((la ++ lb).map U.rep = G) := ⟨_, Lib.hid rfl⟩
  have hGl : G.length = la.length + lb.length := by rw [← HG.out, List.length_map, List.length_append]
  have KD : Hid (U.runesZ (Ta ++ Tb) = G) := Lib.hid (by rw [← KE.out, ← HG.out]; exact U.runesZ_of_enc _)
  have hcat : (⟨Ta.toArray⟩ : ByteArray) ++ ⟨Tb.toArray⟩ = ⟨(Ta ++ Tb).toArray⟩ := by
    apply ByteArray.ext
    rw [ByteArray.data_append]; simp
  have hszab : (⟨(Ta ++ Tb).toArray⟩ : ByteArray).size = Ta.length + Tb.length := by show (Ta ++ Tb).length = _; rw [List.length_append]
  obtain ⟨pa, ca, rfl, _⟩ := id hva
  obtain ⟨pb, cb, rfl, _⟩ := id hvb
  have HSA := Lib.hid ea
  have HSB := Lib.hid eb
  clear ea eb
  have hno : ¬ 9223372036854775807 < (⟨Ta.toArray⟩ : ByteArray).size + (⟨Tb.toArray⟩ : ByteArray).size := by show ¬ _ < Ta.length + Tb.length; omega
  go_enter Try.func15, Try.ntmps15
  go_wp2_with fail
  refine (lives2 _).mono ?_
  rintro e w1 ⟨rfl, hb1⟩
  go_wp2_with fail
  refine (encode_runes _ la Ta HTa.out (by omega) _ (hva.below hb1)).mono ?_
  rintro e w2 ⟨rfl, hb2⟩
  go_wp2_with fail
  refine (encode_runes _ lb Tb HTb.out (by omega) _ ((hvb.below hb1).below hb2)).mono ?_
  rintro e w3 ⟨rfl, hb3⟩
  have hbw := bel2 (bel2 hb1 hb2) hb3
  clear hb1 hb2 hb3
  have hE := own_empty w3
  have hBe : Below w3.heap.size w3 (w3.alloc (.cells #[] 21)) := (Below.refl _ w3).alloc (Nat.le_refl _) _
  have hvae := (hva.below hbw).below hBe
  have hvbe := (hvb.below hbw).below hBe
  go_wp2_with (first
    | (at_builtin; refine wpList_append_runes (by rfl) _ _ rfl w3.heap.size i0 Try.underlying40 hinf hz0 hz1 hz2 _ 0 [] rfl hE _ la rfl hvae HSA.out (by unfold maxLen; omega) (by omega) (by simp) ?_; intro v8 w8 ho8 hg8; have HO8 := Lib.hid ho8; have hb38 : Below w3.heap.size w3 w8 := hBe.grown hg8 (by simp) (fun k hk => by have e : some w3.heap.size = some k := hk; simp only [Option.some.injEq] at e; omega); have hvb8 := (hvb.below hbw).below hb38; have hq8 := hb38.size; clear ho8 hg8 hE hvae hvbe)
    | (at_builtin; refine wpList_append_runes (by rfl) _ _ rfl w3.heap.size i0 Try.underlying40 hinf hz0 hz1 hz2 _ (0 + la.length) ([] ++ la.map (Value.int .i32)) rfl HO8.out _ lb rfl hvb8 HSB.out (by unfold maxLen; omega) (by omega) (by omega) ?_; intro v9 w9 ho9 hg9; have HO9 := Lib.hid ho9; have hb39 : Below w3.heap.size w3 w9 := hb38.grown hg9 (by omega) (fun k hk => (HO8.out.lt k hk).1); clear ho9 hg9))
  have hA9 : RunesAt w9 v9 (la ++ lb) := own_runes (by have := HO9.out; rw [List.length_append, List.map_append]; simpa using this)
  have hb9 := bel2 hbw hb39
  refine (encode_runes v9 (la ++ lb) (Ta ++ Tb) KE.out (by rw [List.length_append]; omega) _ hA9).mono ?_
  rintro e w10 ⟨rfl, hb10⟩
  go_wp2_with fail
  refine (decode_runes ⟨(Ta ++ Tb).toArray⟩ G KD.out (by rw [hszab]; omega) _).mono ?_
  rintro e w11 ⟨v11, rfl, hr11, hb11⟩
  have hbx := bel2 (bel2 hb9 hb10) hb11
  have hA11 := hr11.at
  have hG1 : ∀ N, U.runesZ (U.enc (G.take N)) = G.take N := fun N => by
    rw [U.runesZ_of_enc]
    refine U.map_rep _ (fun r hr => ?_)
    have hm := List.mem_of_mem_take hr
    rw [← HG.out] at hm
    obtain ⟨x, _, rfl⟩ := List.mem_map.1 hm
    exact rep_may x
  have hEG : U.enc G = Ta ++ Tb := by rw [← HG.out, enc_rep, KE.out]
  obtain ⟨p11, cap11, rfl, _⟩ := id hA11
  by_cases hn0 : n < 0
  · go_wp2_with fail
    go_ret
    exact ⟨rfl, hbx⟩
  · by_cases hn1 : (G.length : Int) < n
    · go_wp2_with fail
      go_ret
      exact ⟨rfl, hbx⟩
    · obtain ⟨N, rfl⟩ := Int.eq_ofNat_of_zero_le (show 0 ≤ n by omega)
      have hN : N ≤ G.length := by omega
      obtain ⟨E1, HE1⟩ : ∃ T, Hid (U.enc (G.take N) = T) := ⟨_, Lib.hid rfl⟩
      obtain ⟨E2, HE2⟩ : ∃ T, Hid (U.enc (G.drop N) = T) := ⟨_, Lib.hid rfl⟩
      have HS : Hid (E1 ++ E2 = Ta ++ Tb) := Lib.hid (by rw [← HE1.out, ← HE2.out, ← U.enc_app, List.take_append_drop, hEG])
      have HD1 : Hid (U.runesZ E1 = G.take N) := Lib.hid (by rw [← HE1.out]; exact hG1 N)
      have hE1l : E1.length ≤ 4 * G.length := by rw [← HE1.out]; have := U.enc_len (G.take N); rw [List.length_take_of_le hN] at this; omega
      go_wp2_with fail
      have hcap : G.length ≤ cap11 := by
        rcases hr11.1.2 with ⟨e, h0⟩ | ⟨g, cap, cur, e, _, _, hc, _⟩
        · omega
        · simp only [Value.slice.injEq] at e; omega
      have hAG : RunesAt w11 (.slice p11 (la.length + lb.length) cap11) G := by rw [← hGl]; exact hA11
      have hp : p11 = none ∧ cap11 = 0 ∨ ∃ g, p11 = some ⟨g, 0, none⟩ := by
        rcases hr11.1.2 with ⟨e, h0⟩ | ⟨g, cap, cur, e, _⟩
        · simp only [Value.slice.injEq] at e; exact .inl ⟨e.1, e.2.2⟩
        · simp only [Value.slice.injEq] at e; exact .inr ⟨g, e.1⟩
      rw [hGl] at hN hcap
      have hno5 : ¬ 9223372036854775807 < E1.length + E2.length := by
        have h1 : E1.length + E2.length = Ta.length + Tb.length := by rw [← List.length_append, HS.out, List.length_append]
        omega
      have hNc : N ≤ cap11 := by omega
      have hc2 : (⟨E1.toArray⟩ : ByteArray) ++ ⟨E2.toArray⟩ = ⟨(Ta ++ Tb).toArray⟩ := by
        rw [← HS.out]
        apply ByteArray.ext
        rw [ByteArray.data_append]; simp
      have hNM : (N : Int) ≤ (la.length : Int) + (lb.length : Int) := by omega
      have hl1 : (G.take N).length = N := List.length_take_of_le (by omega)
      have hl2 : (G.drop N).length = G.length - N := List.length_drop
      refine wp_region_vals (by kernel_rfl) slJ (VJ p11 (la.length + lb.length) cap11 N G E1 E2 (Ta ++ Tb)) (fun w' => Below w.heap.size w w' ∧ RunesAt w' (.slice p11 (la.length + lb.length) cap11) G) ?hlt ?hinj ?hback (VJ_mono _ _ _ _ _ _ _ _) (fun _ _ h h' => ⟨h.1.trans (h'.mono h.1.size), h.2.below h'⟩) ?h0 ?hop ?hdone
      case hlt => intro i hi; simp only [List.size_toArray, List.length_cons, List.length_nil] at hi ⊢; unfold slJ; split <;> omega
      case hinj => intro i j hi hj; simp only [List.size_toArray, List.length_cons, List.length_nil] at hi hj; unfold slJ; split <;> split <;> omega
      case hback => exact back_of (by decide +kernel)
      case h0 => exact ⟨hbx.drew, hAG.below ((Below.refl _ w11).drew)⟩
      case hop =>
        intro i o ho a w' hF hg hd
        obtain ⟨_, hgG⟩ := hg
        have hi : i < 23 := (Array.getElem?_eq_some_iff.1 ho).1
        have hcase : i = 0 ∨ i = 1 ∨ i = 2 ∨ i = 3 ∨ i = 4 ∨ i = 5 ∨ i = 6 ∨ i = 7 ∨ i = 8 ∨ i = 9 ∨ i = 10 ∨ i = 11 ∨ i = 12 ∨ i = 13 ∨ i = 14 ∨ i = 15 ∨ i = 16 ∨ i = 17 ∨ i = 18 ∨ i = 19 ∨ i = 20 ∨ i = 21 ∨ i = 22 := by omega
        have h2 : a.eval (.tmp 2) = .int .i64 (N : Int) := (hF.2.2 2 (fun i _ => by unfold slJ; split <;> omega)).trans rfl
        have h7 : a.eval (.tmp 7) = .string ⟨(Ta ++ Tb).toArray⟩ := (hF.2.2 7 (fun i _ => by unfold slJ; split <;> omega)).trans rfl
        have h8 : a.eval (.tmp 8) = .slice p11 (la.length + lb.length) cap11 := (hF.2.2 8 (fun i _ => by unfold slJ; split <;> omega)).trans rfl
        have HD0 := Lib.hid hd
        clear hd hF
        rcases hcase with rfl | rfl | rfl | rfl | rfl | rfl | rfl | rfl | rfl | rfl | rfl | rfl | rfl | rfl | rfl | rfl | rfl | rfl | rfl | rfl | rfl | rfl | rfl
        all_goals
          simp only [List.getElem?_toArray, List.getElem?_cons_zero, List.getElem?_cons_succ, Option.some.injEq] at ho
          subst ho
          have hd := HD0.out
          simp [Region.binds, slJ, VJ] at hd
        · refine ⟨rfl, ?_⟩
          unfold Oper.wp
          simp [execOp, h8]
          exact ⟨_, rfl, rfl, Below.refl _ _⟩
        · refine ⟨rfl, ?_⟩
          unfold Oper.wp
          simp [execOp, h2]
          exact ⟨_, rfl, rfl, Below.refl _ _⟩
        · refine ⟨rfl, ?_⟩
          unfold Oper.wp
          simp [execOp, hd]
          simp [go_sem, hNc]
          exact ⟨_, rfl, take_runes hgG hN, Below.refl _ _⟩
        · refine ⟨rfl, ?_⟩
          unfold Oper.wp
          simp [execOp, resolve, invoke]
          simp [go_sem]
          have hd2 : RunesAt w' (a.tmps[36]?.getD undef) (G.take N) := by have h := hd; simpa [go_sem] using h
          refine (encode_runes _ (G.take N) E1 HE1.out (by omega) _ hd2).mono ?_
          rintro e w3 ⟨rfl, hb3⟩
          exact ⟨_, rfl, rfl, hb3⟩
        · refine ⟨rfl, ?_⟩
          unfold Oper.wp
          simp [execOp, resolve, invoke, hd]
          simp [go_sem]
          refine (decode_runes ⟨E1.toArray⟩ (G.take N) HD1.out (by show E1.length * 4 ≤ _; omega) _).mono ?_
          rintro e w3 ⟨v3, rfl, hr3, hb3⟩
          exact ⟨_, rfl, hr3.at, hb3⟩
        · refine ⟨rfl, ?_⟩
          unfold Oper.wp
          simp [execOp, h8]
          exact ⟨_, rfl, rfl, Below.refl _ _⟩
        · refine ⟨rfl, ?_⟩
          unfold Oper.wp
          simp [execOp, h2]
          exact ⟨_, rfl, rfl, Below.refl _ _⟩
        · refine ⟨rfl, ?_⟩
          unfold Oper.wp
          simp [execOp, hd]
          simp [go_sem, hNc]
          exact ⟨_, rfl, take_runes hgG hN, Below.refl _ _⟩
        · refine ⟨rfl, ?_⟩
          unfold Oper.wp
          simp [execOp, resolve, invoke]
          simp [go_sem]
          have hd2 : RunesAt w' (a.tmps[38]?.getD undef) (G.take N) ∧ RunesAt w' (a.tmps[41]?.getD undef) (G.take N) := ⟨by have h := hd.1; simpa [go_sem] using h, by have h := hd.2.1; simpa [go_sem] using h⟩
          refine (same_is _ _ (G.take N) (G.take N) true (by simp) (by omega) _ hd2.1 hd2.2).mono ?_
          rintro e w3 ⟨rfl, hb3⟩
          exact ⟨_, rfl, rfl, hb3⟩
        · refine ⟨rfl, ?_⟩
          unfold Oper.wp
          simp [execOp, hd]
          exact ⟨_, rfl, rfl, Below.refl _ _⟩
        · have h43 : a.eval (.tmp 43) = .bool true := by first | exact hd | exact hd.2 | exact hd.2.2 | exact hd.1 | exact hd.2.1 | exact hd.2.2.1 | exact hd.2.2.2
          refine ⟨by simp [Region.wanted, yielded, tmp_some2 h43], ?_⟩
          unfold Oper.wp
          simp [execOp, h8]
          exact ⟨_, rfl, rfl, Below.refl _ _⟩
        · have h43 : a.eval (.tmp 43) = .bool true := by first | exact hd | exact hd.2 | exact hd.2.2 | exact hd.1 | exact hd.2.1 | exact hd.2.2.1 | exact hd.2.2.2
          refine ⟨by simp [Region.wanted, yielded, tmp_some2 h43], ?_⟩
          unfold Oper.wp
          simp [execOp, h2]
          exact ⟨_, rfl, rfl, Below.refl _ _⟩
        · have h43 : a.eval (.tmp 43) = .bool true := by first | exact hd | exact hd.2 | exact hd.2.2 | exact hd.1 | exact hd.2.1 | exact hd.2.2.1 | exact hd.2.2.2
          refine ⟨by simp [Region.wanted, yielded, tmp_some2 h43], ?_⟩
          unfold Oper.wp
          simp [execOp, hd]
          simp [go_sem, hNc]
          exact ⟨_, rfl, take_runes hgG hN, Below.refl _ _⟩
        · have h43 : a.eval (.tmp 43) = .bool true := by first | exact hd | exact hd.2 | exact hd.2.2 | exact hd.1 | exact hd.2.1 | exact hd.2.2.1 | exact hd.2.2.2
          refine ⟨by simp [Region.wanted, yielded, tmp_some2 h43], ?_⟩
          unfold Oper.wp
          simp [execOp, resolve, invoke]
          simp [go_sem]
          have hd2 : RunesAt w' (a.tmps[46]?.getD undef) (G.take N) := by have h := hd.1; simpa [go_sem] using h
          refine (encode_runes _ (G.take N) E1 HE1.out (by omega) _ hd2).mono ?_
          rintro e w3 ⟨rfl, hb3⟩
          exact ⟨_, rfl, rfl, hb3⟩
        · have h43 : a.eval (.tmp 43) = .bool true := by first | exact hd | exact hd.2 | exact hd.2.2 | exact hd.1 | exact hd.2.1 | exact hd.2.2.1 | exact hd.2.2.2
          refine ⟨by simp [Region.wanted, yielded, tmp_some2 h43], ?_⟩
          unfold Oper.wp
          simp [execOp, h8]
          exact ⟨_, rfl, rfl, Below.refl _ _⟩
        · have h43 : a.eval (.tmp 43) = .bool true := by first | exact hd | exact hd.2 | exact hd.2.2 | exact hd.1 | exact hd.2.1 | exact hd.2.2.1 | exact hd.2.2.2
          refine ⟨by simp [Region.wanted, yielded, tmp_some2 h43], ?_⟩
          unfold Oper.wp
          simp [execOp, h2]
          exact ⟨_, rfl, rfl, Below.refl _ _⟩
        · have h43 : a.eval (.tmp 43) = .bool true := by first | exact hd | exact hd.2 | exact hd.2.2 | exact hd.1 | exact hd.2.1 | exact hd.2.2.1 | exact hd.2.2.2
          refine ⟨by simp [Region.wanted, yielded, tmp_some2 h43], ?_⟩
          unfold Oper.wp
          simp [execOp, hd]
          simp [go_sem, hNM]
          exact ⟨_, rfl, drop_runes hgG hN hcap, Below.refl _ _⟩
        · have h43 : a.eval (.tmp 43) = .bool true := by first | exact hd | exact hd.2 | exact hd.2.2 | exact hd.1 | exact hd.2.1 | exact hd.2.2.1 | exact hd.2.2.2
          refine ⟨by simp [Region.wanted, yielded, tmp_some2 h43], ?_⟩
          unfold Oper.wp
          simp [execOp, resolve, invoke]
          simp [go_sem]
          have hd2 : RunesAt w' (a.tmps[50]?.getD undef) (G.drop N) := by have h := hd.1; simpa [go_sem] using h
          refine (encode_runes _ (G.drop N) E2 HE2.out (by omega) _ hd2).mono ?_
          rintro e w3 ⟨rfl, hb3⟩
          exact ⟨_, rfl, rfl, hb3⟩
        · have h43 : a.eval (.tmp 43) = .bool true := by first | exact hd | exact hd.2 | exact hd.2.2 | exact hd.1 | exact hd.2.1 | exact hd.2.2.1 | exact hd.2.2.2
          refine ⟨by simp [Region.wanted, yielded, tmp_some2 h43], ?_⟩
          unfold Oper.wp
          simp [execOp, hd]
          simp [go_sem, hno5]
          rw [hc2]
          exact ⟨_, rfl, rfl, Below.refl _ _⟩
        · have h43 : a.eval (.tmp 43) = .bool true := by first | exact hd | exact hd.2 | exact hd.2.2 | exact hd.1 | exact hd.2.1 | exact hd.2.2.1 | exact hd.2.2.2
          refine ⟨by simp [Region.wanted, yielded, tmp_some2 h43], ?_⟩
          unfold Oper.wp
          simp [execOp, h7]
          exact ⟨_, rfl, rfl, Below.refl _ _⟩
        · have h43 : a.eval (.tmp 43) = .bool true := by first | exact hd | exact hd.2 | exact hd.2.2 | exact hd.1 | exact hd.2.1 | exact hd.2.2.1 | exact hd.2.2.2
          refine ⟨by simp [Region.wanted, yielded, tmp_some2 h43], ?_⟩
          unfold Oper.wp
          simp [execOp, hd]
          simp [go_sem]
          exact ⟨_, rfl, rfl, Below.refl _ _⟩
        · refine ⟨rfl, ?_⟩
          unfold Oper.wp
          simp [execOp, hd]
          exact ⟨_, rfl, rfl, Below.refl _ _⟩
        · refine ⟨rfl, ?_⟩
          unfold Oper.wp
          simp [execOp, hd]
          exact ⟨_, rfl, rfl, Below.refl _ _⟩
      case hdone =>
        intro a w' hF hg hv
        have h4 : a.eval (.tmp 6) = .bool true := hv 22 (by decide)
        simp only [Exit.then]
        rename_i K' hK'
        apply hK'
        go_wp2
        (try simp only [Exit.inBlock, Exit.then])
        refine bodyPost_ret (results_tmp rfl _ _ _) hF.2.1 ?_
        exact ⟨congrArg _ h4, hg.1⟩
end Go.Proofs.Ytdpmobikelcafaa
