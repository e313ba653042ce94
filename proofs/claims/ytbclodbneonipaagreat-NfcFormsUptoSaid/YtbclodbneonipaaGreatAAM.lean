import Derived.Test.YtbclodbneonipaaGreatTLM
import Derived.Test.YtbclodbneonipaaGreatUtfHM
import Derived.Test.YtbclodbneonipaaGreatSLM
import Derived.Maps.OwnSet
namespace Go.Proofs.YtbclodbneonipaaGreat
open Go.RowKit N
theorem grownBy_same (w : World) (row : Option Nat) : w.grownBy w row := ⟨rfl, rfl, rfl, Nat.le_refl _, fun _ _ _ => rfl⟩
theorem runes_news {w : World} {ad : Addr} {cap : Nat} {l : List Int} (h : RunesAt w (.slice (some ad) l.length cap) l) : ∀ j u, (l.map (Value.int .i32))[j]? = some u → w.cell? (ad.add j) = some u := by
  obtain ⟨p, c, e, hc⟩ := h
  simp only [Value.slice.injEq] at e
  obtain ⟨rfl, _, rfl⟩ := e
  intro j u hj
  rw [List.getElem?_map] at hj
  obtain ⟨x, hx, rfl⟩ := Option.map_eq_some_iff.1 hj
  obtain ⟨g, o, hp, _, hcell⟩ := hc j x hx
  simp only [Option.some.injEq] at hp
  subst hp
  have e2 : (⟨g, o, none⟩ : Addr).add j = ⟨g, o + j, none⟩ := by
    unfold Addr.add
    by_cases hk0 : j = 0 <;> simp [hk0]
  rw [e2]; exact hcell
theorem runes_one (l : List Int) : ∀ u ∈ l.map (Value.int .i32), u.oneCell' = true := by
  intro u hu
  obtain ⟨x, _, rfl⟩ := List.mem_map.1 hu
  rfl
theorem wpList_append_runes {P : Program} {w : World} {ops : Array Oper} {rest : List Oper} {o : Oper} {a : Act} {Q : Exit → Act → World → Prop} (hgd : Region.wanted o (yielded ops a.tmps) = true) (s x : Operand)
    (ho : o.op = .call { callee := .builtin .append, args := #[s, x], argTypes := #[29, 29] })
    (base : Nat) (i : TypeInfo) (ht : P.underlying 29 = some (.slice 21)) (hi : P.info? 21 = some i) (hz : i.zero = some (.int .i32 0)) (hsize : i.size = 1) (hby : i.bytes = 4)
    (v : Value) (n : Nat) (xs : List Value) (hs : a.eval s = v) (hown : w.ownsRow base 21 1 v n xs) (v2 : Value) (l2 : List Int) (hx : a.eval x = v2) (h2 : RunesAt w v2 l2) (hn2 : ∀ n c, v2 = .slice none n c → n = 0 ∧ c = 0)
    (h63 : n + l2.length ≤ maxLen) (hbytes : (n + l2.length) * 4 ≤ 140737488355328) (hbase : base ≤ w.heap.size)
    (h : ∀ v' w', w'.ownsRow base 21 1 v' (n + l2.length) (xs ++ l2.map (Value.int .i32)) → w.grownBy w' v.ownBlock → wpList P ops Q rest (a.put o.dst v') w') : wpList P ops Q (o :: rest) a w := by
  refine wpList_step fun K hK => ?_
  rw [if_pos hgd]
  obtain ⟨p, cap, rfl, _⟩ := id h2
  cases p with
  | none =>
    obtain ⟨e1, e2⟩ := hn2 _ _ rfl
    have hy : l2 = [] := List.eq_nil_of_length_eq_zero e1
    subst hy e2
    have hrun := run_append_owned_none (P := P) (w := w) base 29 o.type 21 i 1 ht hi v n xs hown
    unfold Oper.wp
    simp [execOp, ho, resolve, invoke, builtin, hs, hx, hrun, Result.andThen]
    refine hK _ _ (h v w ?_ (grownBy_same _ _))
    simpa using hown
  | some ad =>
    have hlm : (l2.map (Value.int .i32)).length = l2.length * 1 := by simp
    exact wp_append_own w s x 29 ho base 21 i (.int .i32 0) 1 4 ht hi hz hsize hby rfl (by decide) v n xs hs hown ad l2.length cap (l2.map (Value.int .i32)) hx hlm (runes_news h2) (runes_one _) h63 hbytes hbase (fun v' w' a b _ => hK _ _ (h v' w' a b))
theorem own_app {B : Nat} {v' : Value} {l m : List Int} {w : World} (h : w.ownsRow B 21 1 v' (l.length + m.length) (l.map (Value.int .i32) ++ m.map (Value.int .i32))) : Own w B v' (l ++ m) := by
  unfold Own
  rw [List.length_append, List.map_append]
  exact h
/-- the cells of an apart: the table, what has been taken apart, the map of what is known -/
abbrev AC (q : TQ) (outv mapv : Value) : Array Value := #[.slice q.p0 q.T.spans.length q.c0, .slice q.p1 q.T.classes.length q.c1, .slice q.p2 q.T.pairs.length q.c2, .slice q.p3 q.T.ways.length q.c3, .slice q.p4 q.T.joins.length q.c4, outv, mapv]
set_option maxRecDepth 20000 in
set_option maxHeartbeats 2000000 in
theorem add_no (g : Nat) (q : TQ) (outv mapv mv : Value) (l m : List Int) (hlm : l.length ≤ 4096) (hmm : m.length ≤ 35184372088320) (hno : 4096 < l.length + m.length) (w : World) (B : Nat) (hG : Has w g (.cells (AC q outv mapv) 45)) (hO : Own w B outv l) (hM : RunesAt w mv m) :
    Calls Tryz.prog 38 #[.pointer (some ⟨g, 0, none⟩), mv] w fun e w' => e = .returned (.bool false) ∧ Below w.heap.size w w' := by
  obtain ⟨p, cap, rfl, _⟩ := hO.form
  obtain ⟨p2, cap2, rfl, _⟩ := hM
  have c5 : w.cell? ⟨g, 5, none⟩ = some (.slice p l.length cap) := hG.cell 5 rfl
  have hd : decide (((l.length : Int) + (m.length : Int)) > 4096) = true := decide_eq_true (by omega)
  have hd2 : 4096 < (l.length : Int) + (m.length : Int) := by omega
  clear hG hO hno
  go_enter Tryz.func38, Tryz.ntmps38
  go_wp2
  go_ret
  exact ⟨rfl, Below.refl _ _⟩
set_option maxRecDepth 20000 in
set_option maxHeartbeats 4000000 in
theorem add_yes (g : Nat) (q : TQ) (outv mapv mv : Value) (l m : List Int) (hyes : l.length + m.length ≤ 4096) (w0 w : World) (hb0 : Below w0.heap.size w0 w) (hgB : w0.heap.size ≤ g) (hG : Has w g (.cells (AC q outv mapv) 45)) (hO : Own w w0.heap.size outv l) (hM : RunesAt w mv m) (hn : ∀ n c, mv = .slice none n c → n = 0 ∧ c = 0) :
    Calls Tryz.prog 38 #[.pointer (some ⟨g, 0, none⟩), mv] w fun e w' => e = .returned (.bool true) ∧ ∃ outv', Has w' g (.cells (AC q outv' mapv) 45) ∧ Own w' w0.heap.size outv' (l ++ m) ∧ Below w0.heap.size w0 w' := by
  obtain ⟨i0, hi, hz0, hz1, hz2⟩ := info_parts infoRune
  obtain ⟨p, cap, rfl, _⟩ := hO.form
  obtain ⟨p2, cap2, rfl, _⟩ := id hM
  have c5 : w.cell? ⟨g, 5, none⟩ = some (.slice p l.length cap) := hG.cell 5 rfl
  have hd2 : ¬ 4096 < (l.length : Int) + (m.length : Int) := by omega
  have HG := Lib.hid hG
  have HO := Lib.hid hO
  have HM := Lib.hid hM
  have HN := Lib.hid hn
  have HB0 := Lib.hid hb0
  have hB := hb0.size
  clear hG hO hM hn hb0
  go_enter Tryz.func38, Tryz.ntmps38
  go_wp2_with (at_builtin; refine wpList_append_runes (by rfl) _ _ rfl w0.heap.size i0 Tryz.underlying29 hi hz0 hz1 hz2 (.slice p l.length cap) l.length (l.map (Value.int .i32)) rfl HO.out (.slice p2 m.length cap2) m rfl HM.out HN.out (by unfold maxLen; omega) (by omega) hB ?_; intro v3 w3 hown3 hgrow3; have HG3 : Hid (Has w3 g (.cells (AC q (.slice p l.length cap) mapv) 45)) := Lib.hid (has_past (v := .slice p l.length cap) HG.out hgrow3 (own_ne HO.out HG.out (by decide))); have HO3 : Hid (Own w3 w0.heap.size v3 (l ++ m)) := Lib.hid (own_app hown3); have HB3 : Hid (Below w0.heap.size w0 w3) := Lib.hid (bel_grown (v := .slice p l.length cap) HB0.out HO.out hgrow3 hB); clear hown3 hgrow3; have k5 : w3.cell? ⟨g, 5, none⟩ = some (.slice p l.length cap) := HG3.out.cell 5 rfl; have kz5 := HG3.out.free 5; obtain ⟨p3, cap3, rfl, _⟩ := HO3.out.form)
  have e9 : Value.slice p3 (l ++ m).length cap3 = .slice p3 (l.length + m.length) cap3 := by simp
  have HO5 := HO3.out
  rw [e9] at HO5
  go_ret
  refine ⟨rfl, .slice p3 (l.length + m.length) cap3, ?_, ?_, HB3.out.setCell (p := ⟨g, 5, none⟩) hgB _⟩
  · have := HG3.out.set 5 (.slice p3 (l.length + m.length) cap3); exact this
  · exact own_set HO5 HG3.out (by decide) 5 _
theorem own_lit2 (w : World) (a b : Int) : (w.alloc (.cells #[.int .i32 a, .int .i32 b] 21)).ownsRow w.heap.size 21 1 (.slice (some ⟨w.heap.size, 0, none⟩) 2 2) 2 [.int .i32 a, .int .i32 b] :=
  ⟨rfl, .inr ⟨w.heap.size, 2, #[.int .i32 a, .int .i32 b], rfl, Nat.le_refl _, heap_alloc_new w _, Nat.le_refl _, by decide, rfl, rfl⟩⟩
set_option maxRecDepth 20000 in
set_option maxHeartbeats 4000000 in
theorem split_is (r : Int) (hs : syl r = true) (w : World) : Calls Tryz.prog 84 #[.int .i32 r] w fun e w' => ∃ p c, e = .returned (.slice (some p) (split r).length c) ∧ Own w' w.heap.size (.slice (some p) (split r).length c) (split r) ∧ Below w.heap.size w w' := by
  have hr : 44032 ≤ r ∧ r ≤ 55203 := by simpa [syl] using hs
  obtain ⟨i0, hi, hz0, hz1, hz2⟩ := info_parts infoRune
  clear hs
  obtain ⟨r1, r2⟩ := hr
  by_cases hm : (r - 44032) % 28 = 0
  · have HS : Hid (split r = [4352 + (r - 44032) / 588, 4449 + (r - 44032) % 588 / 28]) := Lib.hid (by unfold split; rw [if_pos hm])
    have e1 : ((r - 44032) % 28 != 0) = false := by simpa using hm
    clear hm
    go_enter Tryz.func84, Tryz.ntmps84
    go_wp2
    go_ret
    rw [HS.out]
    exact ⟨⟨w.heap.size, 0, none⟩, 2, rfl, own_lit2 w _ _, bnew _ _⟩
  · have HS : Hid (split r = [4352 + (r - 44032) / 588, 4449 + (r - 44032) % 588 / 28, 4519 + (r - 44032) % 28]) := Lib.hid (by unfold split; rw [if_neg hm])
    have e1 : ((r - 44032) % 28 != 0) = true := by simpa using hm
    clear hm
    have HO := Lib.hid (own_lit2 w (4352 + (r - 44032) / 588) (4449 + (r - 44032) % 588 / 28))
    have HB := Lib.hid (bnew w (.cells #[.int .i32 (4352 + (r - 44032) / 588), .int .i32 (4449 + (r - 44032) % 588 / 28)] 21))
    go_enter Tryz.func84, Tryz.ntmps84
    go_wp2_with (at_builtin; refine wpList_append_own _ rfl _ _ 29 rfl w.heap.size 21 i0 (.int .i32 0) 1 4 Tryz.underlying29 hi hz0 hz1 hz2 rfl (by decide) (.slice (some ⟨w.heap.size, 0, none⟩) 2 2) 2 [.int .i32 (4352 + (r - 44032) / 588), .int .i32 (4449 + (r - 44032) % 588 / 28)] rfl (HO.out.alloc _) ⟨w.heap.size + 1, 0, none⟩ 1 1 [.int .i32 (4519 + (r - 44032) % 28)] rfl rfl (by have := lit32 (w.alloc (.cells #[.int .i32 (4352 + (r - 44032) / 588), .int .i32 (4449 + (r - 44032) % 588 / 28)] 21)) (4519 + (r - 44032) % 28); simpa using this) (one32 _) (by decide) (by decide) (by simp; omega) ?_; intro v3 w3 hown3 hgrow3 _; have HB3 : Hid (Below w.heap.size w w3) := Lib.hid (bel_own (v := .slice (some ⟨w.heap.size, 0, none⟩) 2 2) (HB.out.alloc (by simp) (.cells #[.int .i32 (4519 + (r - 44032) % 28)] 21)) (HO.out.alloc (.cells #[.int .i32 (4519 + (r - 44032) % 28)] 21)) hgrow3 (by simp; omega)); obtain ⟨g3, cap3, rfl⟩ := ownsRow_succ hown3; have HO3 := Lib.hid hown3; clear hown3 hgrow3)
    go_ret
    rw [HS.out]
    exact ⟨⟨g3, 0, none⟩, cap3, rfl, HO3.out, HB3.out⟩
end Go.Proofs.YtbclodbneonipaaGreat
namespace Go.Proofs.YtbclodbneonipaaGreat
open Go.RowKit N
open Go.Maps (Keyed)
/-- how a place reads: its two numbers -/
def plElem (v : Value) : Option (DataW Unit × List MemPlace) :=
  match v with
  | .agg a => match a.toList with
    | [.int .i64 f, .int .i64 t] => some (.agg [.lit (.int .i64 f), .lit (.int .i64 t)], [])
    | _ => none
  | _ => none
theorem plElem_mk (f t : Int) : plElem (.agg #[.int .i64 f, .int .i64 t]) = some (.agg [.lit (.int .i64 f), .lit (.int .i64 t)], []) := rfl
theorem plElem_inv {v : Value} {z : DataW Unit × List MemPlace} (h : plElem v = some z) : ∃ f t : Int, v = .agg #[.int .i64 f, .int .i64 t] ∧ z = (.agg [.lit (.int .i64 f), .lit (.int .i64 t)], []) := by
  unfold plElem at h
  split at h
  · rename_i a
    split at h
    · rename_i f t e
      refine ⟨f, t, ?_, by cases h; rfl⟩
      congr 1
      exact Array.ext' e
    · cases h
  · cases h
abbrev zpl : DataW Unit := .agg [.lit (.int .i64 0), .lit (.int .i64 0)]
theorem law21 : Keyed Tryz.prog 21 := Go.Maps.int_keyed Tryz.underlying21
theorem zeroPl (w : World) : (zeroValue 76).run Tryz.prog w = .ok (.agg #[.int .i64 0, .int .i64 0]) w := by kernel_rfl
theorem key32 {r : Int} (h : (Lit.int .i32 r).wf = true) : keyOf Tryz.prog 21 (.int .i32 r) = some (.int .i32 r) := Go.Maps.keyOf_int_mk Tryz.underlying21 h
theorem wpList_lookup_pl (w : World) {ops : Array Oper} {rest : List Oper} {o : Oper} {a : Act} {Q : Exit → Act → World → Prop} (hg : o.guard = none) (m x : Operand) (hop : o.op = Op.lookup 43 m x true)
    (b n : Nat) (D : DataW Unit) (hm : a.eval m = .map (some b)) (hown : w.ownsMap Tryz.prog 21 plElem b n D) (r : Int) (hx : a.eval x = .int .i32 r) (hr : (Lit.int .i32 r).wf = true) (k : Bool) (hk : Maps.has D (.int .i32 r) = k)
    (hK : ∀ f t : Int, D.atKey (.int .i32 r) zpl = .agg [.lit (.int .i64 f), .lit (.int .i64 t)] → wpList Tryz.prog ops Q rest (a.put o.dst (.tuple #[.agg #[.int .i64 f, .int .i64 t], .bool k])) w) :
    wpList Tryz.prog ops Q (o :: rest) a w :=
  wpList_lookup_own_ok w hg m x 43 hop 21 76 law21 Tryz.underlying43 plElem (zeroPl w) zpl [] (plElem_mk 0 0) b n D hm hown (.int .i32 r) (.int .i32 r) hx (key32 hr) (fun v ps hv => by
    obtain ⟨f, t, rfl, hc⟩ := plElem_inv hv
    rw [hk]
    exact hK f t (congrArg Prod.fst hc))
/-! how many runes there can be -/
theorem pigeon : ∀ (n : Nat) (l : List Nat), l.Nodup → (∀ x ∈ l, x < n) → l.length ≤ n
  | 0, l, _, h => by
    cases l with
    | nil => simp
    | cons x l => exact absurd (h x (by simp)) (by omega)
  | n + 1, l, hd, h => by
    have h1 := pigeon n (l.filter (fun x => x != n)) (hd.filter _) (fun x hx => by
      obtain ⟨h1, h2⟩ := List.mem_filter.1 hx
      have := h x h1
      have : x ≠ n := by simpa using h2
      omega)
    have h2 : l.length ≤ (l.filter (fun x => x != n)).length + 1 := by
      clear h1 h
      induction l with
      | nil => simp
      | cons y l ih =>
        have hdy := List.nodup_cons.1 hd
        by_cases hy : y = n
        · have e : l.filter (fun x => x != n) = l := List.filter_eq_self.2 fun x hx => by
            have : x ≠ n := fun e => hdy.1 (by rw [hy, ← e]; exact hx)
            simpa using this
          rw [List.filter_cons_of_neg (by simp [hy]), e]
          simp
        · rw [List.filter_cons_of_pos (by simpa using hy)]
          have := ih hdy.2
          simp only [List.length_cons]
          omega
    omega
def natKey : Lit → Nat
  | .int _ a => (a + 2147483648).toNat
  | _ => 0
theorem own_cap {w : World} {b n : Nat} {D : DataW Unit} {R : Value → Option (DataW Unit × List MemPlace)} (h : w.ownsMap Tryz.prog 21 R b n D) : w.ownsMap Tryz.prog 21 R b 4294967296 D := by
  obtain ⟨es, clock, hb, F, _, hD⟩ := h
  refine ⟨es, clock, hb, F, ?_, hD⟩
  have hap := Go.Maps.fit_apart law21 F
  have hkeys := Go.Maps.fit_keys F
  have hform : ∀ p ∈ es.toList.map (WideElems.rg Tryz.prog 21 R), ∃ a : Int, p.1 = .int .i32 a ∧ -2147483648 ≤ a ∧ a ≤ 2147483647 := fun p hp => by
    obtain ⟨v, hv⟩ := hkeys p hp
    cases v <;> simp [keyOf, mapKey, Tryz.underlying21] at hv
    obtain ⟨⟨rfl, hw⟩, hp⟩ := hv
    simp only [Lit.wf, Bool.and_eq_true, decide_eq_true_eq] at hw
    exact ⟨_, hp.symm, hw⟩
  have hn : ((es.toList.map (WideElems.rg Tryz.prog 21 R)).map (fun p => natKey p.1)).Nodup := by
    unfold List.Nodup
    rw [List.pairwise_map]
    refine List.Pairwise.imp_of_mem (fun {p q} hp hq hne he => ?_) hap
    obtain ⟨a, ha, a0, a1⟩ := hform p hp
    obtain ⟨c, hc, c0, c1⟩ := hform q hq
    rw [ha, hc] at he hne
    simp only [natKey] at he
    exact hne (by congr 1; omega)
  have := pigeon 4294967296 _ hn (fun x hx => by
    obtain ⟨p, hp, rfl⟩ := List.mem_map.1 hx
    obtain ⟨a, ha, a0, a1⟩ := hform p hp
    rw [ha]
    simp only [natKey]
    omega)
  simpa using this
/-! what is known -/
def Known (L : List Pa) (D : DataW Unit) (l : List Int) : Prop := ∀ r : Int, Maps.has D (.int .i32 r) = true → ∃ f t : Nat, D.atKey (.int .i32 r) zpl = .agg [.lit (.int .i64 f), .lit (.int .i64 t)] ∧ f ≤ t ∧ t ≤ l.length ∧ (l.take t).drop f = apt L r
theorem known_none (L : List Pa) : Known L (.map []) [] := fun r h => by simp [Maps.has] at h
theorem known_more {L : List Pa} {D : DataW Unit} {l : List Int} (h : Known L D l) (m : List Int) : Known L D (l ++ m) := fun r hr => by
  obtain ⟨f, t, h1, h2, h3, h4⟩ := h r hr
  refine ⟨f, t, h1, h2, by rw [List.length_append]; omega, ?_⟩
  rw [List.take_append_of_le_length h3]
  exact h4
theorem known_put {L : List Pa} {D : DataW Unit} {l : List Int} (hm : Maps.IsMap D) (r : Int) (h : Known L D (l ++ apt L r)) :
    Known L (D.put (.int .i32 r) (.agg [.lit (.int .i64 (l.length : Nat)), .lit (.int .i64 ((l ++ apt L r).length : Nat))])) (l ++ apt L r) := fun r' hr' => by
  by_cases e : r' = r
  · subst e
    refine ⟨l.length, (l ++ apt L r').length, Maps.atKey_put_same (k := .int .i32 r') hm trivial _ _, by rw [List.length_append]; omega, Nat.le_refl _, ?_⟩
    rw [List.take_length, List.drop_left]
  · have hne : (Lit.int .i32 r') ≠ .int .i32 r := fun h => e (by injection h)
    rw [Maps.has_put_other hne] at hr'
    obtain ⟨f, t, h1, h2⟩ := h r' hr'
    exact ⟨f, t, by rw [Maps.atKey_put_other hne]; exact h1, h2⟩
end Go.Proofs.YtbclodbneonipaaGreat
namespace Go.Proofs.YtbclodbneonipaaGreat
open Go.RowKit N
theorem own_nemap {w : World} {base : Nat} {e : TypeId} {size n m : Nat} {v : Value} {xs : List Value} {es : Array MapEntry} {c : Nat} (h : w.ownsRow base e size v n xs) (hg : Has w m (.map es c)) : v.ownBlock = none ∨ v.ownBlock ≠ some m := by
  rcases h.2 with ⟨rfl, _⟩ | ⟨g', cap, cur, rfl, _, hh, _⟩
  · exact .inl rfl
  · refine .inr fun he => ?_
    have : g' = m := by simpa [Value.ownBlock] using he
    subst this
    unfold Has at hg
    rw [hh] at hg
    injection hg with hg
    cases hg
/-- the maps of w are in w' as they were -/
def MapsKept (w w' : World) : Prop := ∀ b es c, Has w b (.map es c) → Has w' b (.map es c)
theorem MapsKept.trans {a b c : World} (h : MapsKept a b) (k : MapsKept b c) : MapsKept a c := fun x es n hx => k x es n (h x es n hx)
theorem MapsKept.below {w w' : World} (h : Below w.heap.size w w') : MapsKept w w' := fun _ _ _ hx => hx.to h
theorem MapsKept.set {w : World} {g i : Nat} {cs : Array Value} {t : TypeId} (hG : Has w g (.cells cs t)) (u : Value) : MapsKept w (w.setCell ⟨g, i, none⟩ u) := fun b es c hb => hb.far (p := ⟨g, i, none⟩) (fun e => by
  unfold Has at hG hb
  have e' : b = g := e
  rw [e', hG] at hb
  injection hb with hb
  cases hb) u
theorem MapsKept.owns {w w' : World} {b n : Nat} {D : DataW Unit} {R : Value → Option (DataW Unit × List MemPlace)} {k : TypeId} (h : MapsKept w w') (ho : w.ownsMap Tryz.prog k R b n D) : w'.ownsMap Tryz.prog k R b n D := by
  obtain ⟨es, clock, hb, rest⟩ := ho
  exact ⟨es, clock, h b es clock hb, rest⟩
/-- the structs of w (but those of the kinds 21, 69) are in w' as they were -/
def CellsKept (w w' : World) : Prop := ∀ b cs t, Has w b (.cells cs t) → t ≠ 21 → t ≠ 45 → Has w' b (.cells cs t)
theorem CellsKept.trans {a b c : World} (h : CellsKept a b) (k : CellsKept b c) : CellsKept a c := fun x cs t hx e1 e2 => k x cs t (h x cs t hx e1 e2) e1 e2
theorem CellsKept.below {w w' : World} (h : Below w.heap.size w w') : CellsKept w w' := fun _ _ _ hx _ _ => hx.to h
theorem CellsKept.set {w : World} {g i : Nat} {cs : Array Value} (hG : Has w g (.cells cs 45)) (u : Value) : CellsKept w (w.setCell ⟨g, i, none⟩ u) := fun b cs' t hb _ ht => hb.far (p := ⟨g, i, none⟩) (fun e => by
  unfold Has at hG hb
  have e' : b = g := e
  rw [e', hG] at hb
  injection hb with hb
  injection hb with _ hb
  exact ht hb.symm) u
set_option maxRecDepth 20000 in
set_option maxHeartbeats 1000000 in
theorem add_yes2 (g : Nat) (q : TQ) (outv mapv mv : Value) (l m : List Int) (hyes : l.length + m.length ≤ 4096) (w0 w : World) (hb0 : Below w0.heap.size w0 w) (hgB : w0.heap.size ≤ g) (hG : Has w g (.cells (AC q outv mapv) 45)) (hO : Own w w0.heap.size outv l) (hM : RunesAt w mv m) (hn : ∀ n c, mv = .slice none n c → n = 0 ∧ c = 0) :
    Calls Tryz.prog 38 #[.pointer (some ⟨g, 0, none⟩), mv] w fun e w' => e = .returned (.bool true) ∧ ∃ outv', Has w' g (.cells (AC q outv' mapv) 45) ∧ Own w' w0.heap.size outv' (l ++ m) ∧ Below w0.heap.size w0 w' ∧ MapsKept w w' ∧ CellsKept w w' := by
  obtain ⟨i0, hi, hz0, hz1, hz2⟩ := info_parts infoRune
  obtain ⟨p, cap, rfl, _⟩ := hO.form
  obtain ⟨p2, cap2, rfl, _⟩ := id hM
  have c5 : w.cell? ⟨g, 5, none⟩ = some (.slice p l.length cap) := hG.cell 5 rfl
  have hd2 : ¬ 4096 < (l.length : Int) + (m.length : Int) := by omega
  have HG := Lib.hid hG
  have HO := Lib.hid hO
  have HM := Lib.hid hM
  have HN := Lib.hid hn
  have HB0 := Lib.hid hb0
  have hB := hb0.size
  clear hG hO hM hn hb0
  go_enter Tryz.func38, Tryz.ntmps38
  go_wp2_with (at_builtin; refine wpList_append_runes (by rfl) _ _ rfl w0.heap.size i0 Tryz.underlying29 hi hz0 hz1 hz2 (.slice p l.length cap) l.length (l.map (Value.int .i32)) rfl HO.out (.slice p2 m.length cap2) m rfl HM.out HN.out (by unfold maxLen; omega) (by omega) hB ?_; intro v3 w3 hown3 hgrow3; have HC3 : Hid (CellsKept w w3) := Lib.hid (fun b cs t hb ht _ => has_past (v := .slice p l.length cap) hb hgrow3 (own_ne HO.out hb (Ne.symm ht))); have HK3 : Hid (MapsKept w w3) := Lib.hid (fun b es c hb => has_past (v := .slice p l.length cap) hb hgrow3 (own_nemap HO.out hb)); have HG3 : Hid (Has w3 g (.cells (AC q (.slice p l.length cap) mapv) 45)) := Lib.hid (has_past (v := .slice p l.length cap) HG.out hgrow3 (own_ne HO.out HG.out (by decide))); have HO3 : Hid (Own w3 w0.heap.size v3 (l ++ m)) := Lib.hid (own_app hown3); have HB3 : Hid (Below w0.heap.size w0 w3) := Lib.hid (bel_grown (v := .slice p l.length cap) HB0.out HO.out hgrow3 hB); clear hown3 hgrow3; have k5 : w3.cell? ⟨g, 5, none⟩ = some (.slice p l.length cap) := HG3.out.cell 5 rfl; have kz5 := HG3.out.free 5; obtain ⟨p3, cap3, rfl, _⟩ := HO3.out.form)
  have e9 : Value.slice p3 (l ++ m).length cap3 = .slice p3 (l.length + m.length) cap3 := by simp
  have HO5 := HO3.out
  rw [e9] at HO5
  go_ret
  refine ⟨rfl, .slice p3 (l.length + m.length) cap3, ?_, ?_, HB3.out.setCell (p := ⟨g, 5, none⟩) hgB _, HK3.out.trans (MapsKept.set HG3.out _), HC3.out.trans (CellsKept.set HG3.out _)⟩
  · have := HG3.out.set 5 (.slice p3 (l.length + m.length) cap3); exact this
  · exact own_set HO5 HG3.out (by decide) 5 _
/-- an apart: the table, what has been taken apart, what is known -/
def AS (w0 : World) (q : TQ) (g m : Nat) (w : World) (l : List Int) : Prop := ∃ outv D, Has w g (.cells (AC q outv (.map (some m))) 45) ∧ Own w w0.heap.size outv l ∧ w.ownsMap Tryz.prog 21 plElem m 4294967296 D ∧ Known q.T.pairs D l ∧ Below w0.heap.size w0 w ∧ w0.heap.size ≤ g ∧ w0.heap.size ≤ m ∧ l.length ≤ 4096
theorem AS.to {w0 w w' : World} {q : TQ} {g m : Nat} {l : List Int} (h : AS w0 q g m w l) (hb : Below w.heap.size w w') : AS w0 q g m w' l := by
  obtain ⟨outv, D, h1, h2, h3, h4, h5, h6, h7, h8⟩ := h
  exact ⟨outv, D, h1.to hb, h2.to hb, (MapsKept.below hb).owns h3, h4, h5.trans (hb.mono h5.size), h6, h7, h8⟩
/-- what comes of adding x, which is told by b -/
def AA2 (w0 : World) (q : TQ) (g m : Nat) (l x : List Int) (b : Bool) (w w' : World) : Prop := (b = true ∧ AS w0 q g m w' (l ++ x) ∧ CellsKept w w') ∨ (b = false ∧ 4096 < l.length + x.length ∧ Below w0.heap.size w0 w')
theorem add_is (g m : Nat) (q : TQ) (mv : Value) (l x : List Int) (hx : x.length ≤ 4096) (w0 w : World) (h : AS w0 q g m w l) (hM : RunesAt w mv x) (hn : ∀ n c, mv = .slice none n c → n = 0 ∧ c = 0) :
    Calls Tryz.prog 38 #[.pointer (some ⟨g, 0, none⟩), mv] w fun e w' => ∃ b, e = .returned (.bool b) ∧ AA2 w0 q g m l x b w w' := by
  obtain ⟨outv, D, h1, h2, h3, h4, h5, h6, h7, h8⟩ := h
  by_cases hy : l.length + x.length ≤ 4096
  · refine (add_yes2 g q outv (.map (some m)) mv l x hy w0 w h5 h6 h1 h2 hM hn).mono ?_
    rintro e w' ⟨he, outv', k1, k2, k3, k4, k5⟩
    exact ⟨true, he, .inl ⟨rfl, ⟨outv', D, k1, k2, k4.owns h3, known_more h4 x, k3, h6, h7, by rw [List.length_append]; omega⟩, k5⟩⟩
  · refine (add_no g q outv (.map (some m)) mv l x h8 (by omega) (by omega) w w0.heap.size h1 h2 hM).mono ?_
    rintro e w' ⟨he, k1⟩
    exact ⟨false, he, .inr ⟨rfl, by omega, h5.trans (k1.mono h5.size)⟩⟩
theorem AA2.from {w0 : World} {q : TQ} {g m : Nat} {l x : List Int} {b : Bool} {w w1 w' : World} (hb : Below w.heap.size w w1) (h : AA2 w0 q g m l x b w1 w') : AA2 w0 q g m l x b w w' := by
  rcases h with ⟨h1, h2, h3⟩ | h
  · exact .inl ⟨h1, h2, (CellsKept.below hb).trans h3⟩
  · exact .inr h
end Go.Proofs.YtbclodbneonipaaGreat
