import Derived.Test.YtlpkcpacfldfaaaGreatTM
import Derived.Test.YtlpkcpacfldfaaaGreatUJ
import Derived.Test.YtlpkcpacfldfaaaGreatSL
namespace Go.Proofs.YtlpkcpacfldfaaaGreat
open Go.RowKit N
theorem grownBy_same (w : World) (row : Option Nat) : w.grownBy w row := ⟨rfl, rfl, rfl, Nat.le_refl _, fun _ _ _ => rfl⟩
theorem runes_news {w : World} {ad : Addr} {cap : Nat} {l : List Int} (h : RunesAt w (.slice (some ad) l.length cap) l) : ∀ j u, (l.map (Value.int .i32))[j]? = some u → w.cell? (ad.add j) = some u := by
  obtain ⟨p, c, e, hc⟩ := h
  simp only [Value.slice.injEq] at e
  obtain ⟨rfl, _, rfl⟩ := e
  intro j u hj
  rw [List.getElem?_map] at hj
  obtain ⟨x, hx, rfl⟩ := Option.map_eq_some_iff.1 hj
  obtain ⟨g, o, hp, _, hcell⟩ := hc j x hx
  simp only [Option.some.injEq] at hp
  subst hp
  have e2 : (⟨g, o, none⟩ : Addr).add j = ⟨g, o + j, none⟩ := by
    unfold Addr.add
    by_cases hk0 : j = 0 <;> simp [hk0]
  rw [e2]; exact hcell
theorem runes_one (l : List Int) : ∀ u ∈ l.map (Value.int .i32), u.oneCell' = true := by
  intro u hu
  obtain ⟨x, _, rfl⟩ := List.mem_map.1 hu
  rfl
theorem wpList_append_runes {P : Program} {w : World} {ops : Array Oper} {rest : List Oper} {o : Oper} {a : Act} {Q : Exit → Act → World → Prop} (hgd : Region.wanted o (yielded ops a.tmps) = true) (s x : Operand)
    (ho : o.op = .call { callee := .builtin .append, args := #[s, x], argTypes := #[29, 29] })
    (base : Nat) (i : TypeInfo) (ht : P.underlying 29 = some (.slice 21)) (hi : P.info? 21 = some i) (hz : i.zero = some (.int .i32 0)) (hsize : i.size = 1) (hby : i.bytes = 4)
    (v : Value) (n : Nat) (xs : List Value) (hs : a.eval s = v) (hown : w.ownsRow base 21 1 v n xs) (v2 : Value) (l2 : List Int) (hx : a.eval x = v2) (h2 : RunesAt w v2 l2) (hn2 : ∀ n c, v2 = .slice none n c → n = 0 ∧ c = 0)
    (h63 : n + l2.length ≤ maxLen) (hbytes : (n + l2.length) * 4 ≤ 140737488355328) (hbase : base ≤ w.heap.size)
    (h : ∀ v' w', w'.ownsRow base 21 1 v' (n + l2.length) (xs ++ l2.map (Value.int .i32)) → w.grownBy w' v.ownBlock → wpList P ops Q rest (a.put o.dst v') w') : wpList P ops Q (o :: rest) a w := by
  refine wpList_step fun K hK => ?_
  rw [if_pos hgd]
  obtain ⟨p, cap, rfl, _⟩ := id h2
  cases p with
  | none =>
    obtain ⟨e1, e2⟩ := hn2 _ _ rfl
    have hy : l2 = [] := List.eq_nil_of_length_eq_zero e1
    subst hy e2
    have hrun := run_append_owned_none (P := P) (w := w) base 29 o.type 21 i 1 ht hi v n xs hown
    unfold Oper.wp
    simp [execOp, ho, resolve, invoke, builtin, hs, hx, hrun, Result.andThen]
    refine hK _ _ (h v w ?_ (grownBy_same _ _))
    simpa using hown
  | some ad =>
    have hlm : (l2.map (Value.int .i32)).length = l2.length * 1 := by simp
    exact wp_append_own w s x 29 ho base 21 i (.int .i32 0) 1 4 ht hi hz hsize hby rfl (by decide) v n xs hs hown ad l2.length cap (l2.map (Value.int .i32)) hx hlm (runes_news h2) (runes_one _) h63 hbytes hbase (fun v' w' a b _ => hK _ _ (h v' w' a b))
theorem own_app {B : Nat} {v' : Value} {l m : List Int} {w : World} (h : w.ownsRow B 21 1 v' (l.length + m.length) (l.map (Value.int .i32) ++ m.map (Value.int .i32))) : Own w B v' (l ++ m) := by
  unfold Own
  rw [List.length_append, List.map_append]
  exact h
/-- the cells of an apart: the table, what has been taken apart, the map of what is known -/
abbrev AC (q : TQ) (outv mapv : Value) : Array Value := #[.slice q.p0 q.T.spans.length q.c0, .slice q.p1 q.T.classes.length q.c1, .slice q.p2 q.T.pairs.length q.c2, .slice q.p3 q.T.ways.length q.c3, .slice q.p4 q.T.joins.length q.c4, outv, mapv]
set_option maxRecDepth 20000 in
set_option maxHeartbeats 2000000 in
theorem add_no (g : Nat) (q : TQ) (outv mapv mv : Value) (l m : List Int) (hlm : l.length ≤ 4096) (hmm : m.length ≤ 35184372088320) (hno : 4096 < l.length + m.length) (w : World) (B : Nat) (hG : Has w g (.cells (AC q outv mapv) 69)) (hO : Own w B outv l) (hM : RunesAt w mv m) :
    Calls Tryz.prog 96 #[.pointer (some ⟨g, 0, none⟩), mv] w fun e w' => e = .returned (.bool false) ∧ Below w.heap.size w w' := by
  obtain ⟨p, cap, rfl, _⟩ := hO.form
  obtain ⟨p2, cap2, rfl, _⟩ := hM
  have c5 : w.cell? ⟨g, 5, none⟩ = some (.slice p l.length cap) := hG.cell 5 rfl
  have hd : decide (((l.length : Int) + (m.length : Int)) > 4096) = true := decide_eq_true (by omega)
  have hd2 : 4096 < (l.length : Int) + (m.length : Int) := by omega
  clear hG hO hno
  go_enter Tryz.func96, Tryz.ntmps96
  go_wp2
  go_ret
  exact ⟨rfl, Below.refl _ _⟩
set_option maxRecDepth 20000 in
set_option maxHeartbeats 4000000 in
theorem add_yes (g : Nat) (q : TQ) (outv mapv mv : Value) (l m : List Int) (hyes : l.length + m.length ≤ 4096) (w0 w : World) (hb0 : Below w0.heap.size w0 w) (hgB : w0.heap.size ≤ g) (hG : Has w g (.cells (AC q outv mapv) 69)) (hO : Own w w0.heap.size outv l) (hM : RunesAt w mv m) (hn : ∀ n c, mv = .slice none n c → n = 0 ∧ c = 0) :
    Calls Tryz.prog 96 #[.pointer (some ⟨g, 0, none⟩), mv] w fun e w' => e = .returned (.bool true) ∧ ∃ outv', Has w' g (.cells (AC q outv' mapv) 69) ∧ Own w' w0.heap.size outv' (l ++ m) ∧ Below w0.heap.size w0 w' := by
  obtain ⟨i0, hi, hz0, hz1, hz2⟩ := info_parts infoRune
  obtain ⟨p, cap, rfl, _⟩ := hO.form
  obtain ⟨p2, cap2, rfl, _⟩ := id hM
  have c5 : w.cell? ⟨g, 5, none⟩ = some (.slice p l.length cap) := hG.cell 5 rfl
  have hd2 : ¬ 4096 < (l.length : Int) + (m.length : Int) := by omega
  have HG := Lib.hid hG
  have HO := Lib.hid hO
  have HM := Lib.hid hM
  have HN := Lib.hid hn
  have HB0 := Lib.hid hb0
  have hB := hb0.size
  clear hG hO hM hn hb0
  go_enter Tryz.func96, Tryz.ntmps96
  go_wp2_with (at_builtin; refine wpList_append_runes (by rfl) _ _ rfl w0.heap.size i0 Tryz.underlying29 hi hz0 hz1 hz2 (.slice p l.length cap) l.length (l.map (Value.int .i32)) rfl HO.out (.slice p2 m.length cap2) m rfl HM.out HN.out (by unfold maxLen; omega) (by omega) hB ?_; intro v3 w3 hown3 hgrow3; have HG3 : Hid (Has w3 g (.cells (AC q (.slice p l.length cap) mapv) 69)) := Lib.hid (has_past (v := .slice p l.length cap) HG.out hgrow3 (own_ne HO.out HG.out (by decide))); have HO3 : Hid (Own w3 w0.heap.size v3 (l ++ m)) := Lib.hid (own_app hown3); have HB3 : Hid (Below w0.heap.size w0 w3) := Lib.hid (bel_grown (v := .slice p l.length cap) HB0.out HO.out hgrow3 hB); clear hown3 hgrow3; have k5 : w3.cell? ⟨g, 5, none⟩ = some (.slice p l.length cap) := HG3.out.cell 5 rfl; have kz5 := HG3.out.free 5; obtain ⟨p3, cap3, rfl, _⟩ := HO3.out.form)
  have e9 : Value.slice p3 (l ++ m).length cap3 = .slice p3 (l.length + m.length) cap3 := by simp
  have HO5 := HO3.out
  rw [e9] at HO5
  go_ret
  refine ⟨rfl, .slice p3 (l.length + m.length) cap3, ?_, ?_, HB3.out.setCell (p := ⟨g, 5, none⟩) hgB _⟩
  · have := HG3.out.set 5 (.slice p3 (l.length + m.length) cap3); exact this
  · exact own_set HO5 HG3.out (by decide) 5 _
theorem own_lit2 (w : World) (a b : Int) : (w.alloc (.cells #[.int .i32 a, .int .i32 b] 21)).ownsRow w.heap.size 21 1 (.slice (some ⟨w.heap.size, 0, none⟩) 2 2) 2 [.int .i32 a, .int .i32 b] :=
  ⟨rfl, .inr ⟨w.heap.size, 2, #[.int .i32 a, .int .i32 b], rfl, Nat.le_refl _, heap_alloc_new w _, Nat.le_refl _, by decide, rfl, rfl⟩⟩
set_option maxRecDepth 20000 in
set_option maxHeartbeats 4000000 in
theorem split_is (r : Int) (hs : syl r = true) (w : World) : Calls Tryz.prog 182 #[.int .i32 r] w fun e w' => ∃ p c, e = .returned (.slice (some p) (split r).length c) ∧ Own w' w.heap.size (.slice (some p) (split r).length c) (split r) ∧ Below w.heap.size w w' := by
  have hr : 44032 ≤ r ∧ r ≤ 55203 := by simpa [syl] using hs
  obtain ⟨i0, hi, hz0, hz1, hz2⟩ := info_parts infoRune
  clear hs
  obtain ⟨r1, r2⟩ := hr
  by_cases hm : (r - 44032) % 28 = 0
  · have HS : Hid (split r = [4352 + (r - 44032) / 588, 4449 + (r - 44032) % 588 / 28]) := Lib.hid (by unfold split; rw [if_pos hm])
    have e1 : ((r - 44032) % 28 != 0) = false := by simpa using hm
    clear hm
    go_enter Tryz.func182, Tryz.ntmps182
    go_wp2
    go_ret
    rw [HS.out]
    exact ⟨⟨w.heap.size, 0, none⟩, 2, rfl, own_lit2 w _ _, bnew _ _⟩
  · have HS : Hid (split r = [4352 + (r - 44032) / 588, 4449 + (r - 44032) % 588 / 28, 4519 + (r - 44032) % 28]) := Lib.hid (by unfold split; rw [if_neg hm])
    have e1 : ((r - 44032) % 28 != 0) = true := by simpa using hm
    clear hm
    have HO := Lib.hid (own_lit2 w (4352 + (r - 44032) / 588) (4449 + (r - 44032) % 588 / 28))
    have HB := Lib.hid (bnew w (.cells #[.int .i32 (4352 + (r - 44032) / 588), .int .i32 (4449 + (r - 44032) % 588 / 28)] 21))
    go_enter Tryz.func182, Tryz.ntmps182
    go_wp2_with (at_builtin; refine wpList_append_own _ rfl _ _ 29 rfl w.heap.size 21 i0 (.int .i32 0) 1 4 Tryz.underlying29 hi hz0 hz1 hz2 rfl (by decide) (.slice (some ⟨w.heap.size, 0, none⟩) 2 2) 2 [.int .i32 (4352 + (r - 44032) / 588), .int .i32 (4449 + (r - 44032) % 588 / 28)] rfl (HO.out.alloc _) ⟨w.heap.size + 1, 0, none⟩ 1 1 [.int .i32 (4519 + (r - 44032) % 28)] rfl rfl (by have := lit32 (w.alloc (.cells #[.int .i32 (4352 + (r - 44032) / 588), .int .i32 (4449 + (r - 44032) % 588 / 28)] 21)) (4519 + (r - 44032) % 28); simpa using this) (one32 _) (by decide) (by decide) (by simp; omega) ?_; intro v3 w3 hown3 hgrow3 _; have HB3 : Hid (Below w.heap.size w w3) := Lib.hid (bel_own (v := .slice (some ⟨w.heap.size, 0, none⟩) 2 2) (HB.out.alloc (by simp) (.cells #[.int .i32 (4519 + (r - 44032) % 28)] 21)) (HO.out.alloc (.cells #[.int .i32 (4519 + (r - 44032) % 28)] 21)) hgrow3 (by simp; omega)); obtain ⟨g3, cap3, rfl⟩ := ownsRow_succ hown3; have HO3 := Lib.hid hown3; clear hown3 hgrow3)
    go_ret
    rw [HS.out]
    exact ⟨⟨g3, 0, none⟩, cap3, rfl, HO3.out, HB3.out⟩
end Go.Proofs.YtlpkcpacfldfaaaGreat
