import Derived.Test.YtlpkcpacfldfaaaGreatGF
import Derived.Test.YtlpkcpacfldfaaaGreatCP
import Derived.Deep.RegionHeld3
import Derived.Maps.RangeWalk
import Derived.Maps.OwnOps
import Derived.WideKeyPair
import Derived.WideKeyEntry
import Derived.DeepKeys4
namespace Go.Proofs.YtlpkcpacfldfaaaGreat
open Go.RowKit N
/-- all runes of a table -/
def spR (x : Sp) : List Int := x.lo :: x.hi :: x.map
def clR (x : Cl) : List Int := [x.r]
def paR (x : Pa) : List Int := [x.r, x.a, x.b]
def sgR (x : Sg) : List Int := [x.lo, x.hi]
def runesT (T : Tab) : List Int := T.spans.flatMap spR ++ T.classes.flatMap clR ++ T.pairs.flatMap paR ++ T.ways.flatMap sgR ++ T.joins.flatMap sgR
theorem fm_len {α : Type} {f : α → List Int} {c : Nat} : ∀ (l : List α), (∀ x ∈ l, (f x).length ≤ c) → (l.flatMap f).length ≤ c * l.length
  | [], _ => by simp
  | x :: l, h => by
    rw [List.flatMap_cons, List.length_append, List.length_cons, Nat.mul_add]
    have h1 := h x (by simp)
    have h2 := fm_len l (fun y hy => h y (by simp [hy]))
    omega
theorem fm_snoc {α : Type} {f : α → List Int} {l : List α} {k : Nat} (h : k < l.length) : (l.take (k + 1)).flatMap f = (l.take k).flatMap f ++ f l[k] := by
  rw [take_snoc l k h, List.flatMap_append]
  simp
theorem fm_take {α : Type} {f : α → List Int} {c : Nat} {l : List α} (k : Nat) (hk : k ≤ 1024) (h : ∀ x ∈ l, (f x).length ≤ c) : ((l.take k).flatMap f).length ≤ c * 1024 := by
  have h1 := fm_len (l.take k) (fun x hx => h x (List.mem_of_mem_take hx))
  have h2 : (l.take k).length ≤ 1024 := by rw [List.length_take]; omega
  exact Nat.le_trans h1 (Nat.mul_le_mul_left c h2)
theorem step_append_runes {P : Program} {w : World} {ops : Array Oper} {o : Oper} {a : Act} {K : Act → World → Prop} {Q : Exit → Act → World → Prop} {E : Prop} (hgd : o.guard = none) (s x : Operand)
    (ho : o.op = .call { callee := .builtin .append, args := #[s, x], argTypes := #[29, 29] })
    (base : Nat) (i : TypeInfo) (ht : P.underlying 29 = some (.slice 21)) (hi : P.info? 21 = some i) (hz : i.zero = some (.int .i32 0)) (hsize : i.size = 1) (hby : i.bytes = 4)
    (v : Value) (n : Nat) (xs : List Value) (hs : a.eval s = v) (hown : w.ownsRow base 21 1 v n xs) (v2 : Value) (l2 : List Int) (hx : a.eval x = v2) (h2 : RunesAt w v2 l2) (hn2 : ∀ n c, v2 = .slice none n c → n = 0 ∧ c = 0)
    (h63 : n + l2.length ≤ maxLen) (hbytes : (n + l2.length) * 4 ≤ 140737488355328) (hbase : base ≤ w.heap.size)
    (h : ∀ v' w', w'.ownsRow base 21 1 v' (n + l2.length) (xs ++ l2.map (Value.int .i32)) → w.grownBy w' v.ownBlock → K (a.put o.dst v') w') :
    if Region.wanted o (yielded ops a.tmps) = true then Oper.wp P o a w K Q else E := by
  have hw : Region.wanted o (yielded ops a.tmps) = true := by simp [Region.wanted, hgd]
  rw [if_pos hw]
  obtain ⟨p, cap, rfl, _⟩ := id h2
  cases p with
  | none =>
    obtain ⟨e1, e2⟩ := hn2 _ _ rfl
    have hy : l2 = [] := List.eq_nil_of_length_eq_zero e1
    subst hy e2
    have hrun := run_append_owned_none (P := P) (w := w) base 29 o.type 21 i 1 ht hi v n xs hown
    unfold Oper.wp
    simp [execOp, ho, resolve, invoke, builtin, hs, hx, hrun, Result.andThen]
    refine (h v w ?_ (grownBy_same _ _))
    simpa using hown
  | some ad =>
    have hlm : (l2.map (Value.int .i32)).length = l2.length * 1 := by simp
    exact wp_append_own w s x 29 ho base 21 i (.int .i32 0) 1 4 ht hi hz hsize hby rfl (by decide) v n xs hs hown ad l2.length cap (l2.map (Value.int .i32)) hx hlm (runes_news h2) (runes_one _) h63 hbytes hbase (fun v' w' a b _ => h v' w' a b)
end Go.Proofs.YtlpkcpacfldfaaaGreat
namespace Go.Proofs.YtlpkcpacfldfaaaGreat
open Go.RowKit N
theorem own_span {w : World} {B : Nat} {ov : Value} {F : List Int} (h : Own w B ov F) : ∃ po co, ov = .slice po F.length co := by
  obtain ⟨p, c, e, _⟩ := h.form
  exact ⟨p, c, e⟩
set_option maxRecDepth 20000 in
set_option maxHeartbeats 8000000 in
theorem runes_is (q : TQ) (L : List Int) (hL : runesT q.T = L) (w : World) (hs : q.T.spans.length ≤ 1024 ∧ q.T.classes.length ≤ 1024 ∧ q.T.pairs.length ≤ 1024 ∧ q.T.ways.length ≤ 1024 ∧ q.T.joins.length ≤ 1024) (hm : ∀ x ∈ q.T.spans, x.map.length ≤ 8) (hN : ∀ x ∈ q.T.spans, ∀ n c, x.mv = .slice none n c → n = 0 ∧ c = 0) (hT : TabAt w q) :
    Calls Tryz.prog 180 #[q.v] w fun e w' => ∃ v', e = .returned v' ∧ Own w' w.heap.size v' L ∧ Below w.heap.size w w' := by
  obtain ⟨i0, hi, hz0, hz1, hz2⟩ := info_parts infoRune
  have HT := Lib.hid hT
  have HS := Lib.hid hs
  have HM := Lib.hid hm
  have HNN := Lib.hid hN
  have HL := Lib.hid hL
  have HGw := Lib.hid (Has.new w (.cells q.cs 28))
  have HBw := Lib.hid (bnew w (.cells q.cs 28))
  have C1 : Hid (∀ i x, q.T.spans[i]? = some x → ∃ g o, q.p0 = some ⟨g, o, none⟩ ∧ g < w.heap.size ∧ ∀ j u, (encSp x)[j]? = some u → w.cell? ⟨g, o + i * 4 + j, none⟩ = some u) := Lib.hid (by
    obtain ⟨p, cap, hpv, _, hc⟩ := HT.out.s
    simp only [TQ.v0, Value.slice.injEq] at hpv
    obtain ⟨rfl, _, rfl⟩ := hpv
    exact hc)
  have C2 : Hid (∀ i x, q.T.classes[i]? = some x → ∃ g o, q.p1 = some ⟨g, o, none⟩ ∧ g < w.heap.size ∧ ∀ j u, (encCl x)[j]? = some u → w.cell? ⟨g, o + i * 2 + j, none⟩ = some u) := Lib.hid (by
    obtain ⟨p, cap, hpv, _, hc⟩ := HT.out.c
    simp only [TQ.v1, Value.slice.injEq] at hpv
    obtain ⟨rfl, _, rfl⟩ := hpv
    exact hc)
  have C3 : Hid (∀ i x, q.T.pairs[i]? = some x → ∃ g o, q.p2 = some ⟨g, o, none⟩ ∧ g < w.heap.size ∧ ∀ j u, (encPa x)[j]? = some u → w.cell? ⟨g, o + i * 4 + j, none⟩ = some u) := Lib.hid (by
    obtain ⟨p, cap, hpv, _, hc⟩ := HT.out.p
    simp only [TQ.v2, Value.slice.injEq] at hpv
    obtain ⟨rfl, _, rfl⟩ := hpv
    exact hc)
  have C4 : Hid (∀ i x, q.T.ways[i]? = some x → ∃ g o, q.p3 = some ⟨g, o, none⟩ ∧ g < w.heap.size ∧ ∀ j u, (encSg x)[j]? = some u → w.cell? ⟨g, o + i * 3 + j, none⟩ = some u) := Lib.hid (by
    obtain ⟨p, cap, hpv, _, hc⟩ := HT.out.y
    simp only [TQ.v3, Value.slice.injEq] at hpv
    obtain ⟨rfl, _, rfl⟩ := hpv
    exact hc)
  have C5 : Hid (∀ i x, q.T.joins[i]? = some x → ∃ g o, q.p4 = some ⟨g, o, none⟩ ∧ g < w.heap.size ∧ ∀ j u, (encSg x)[j]? = some u → w.cell? ⟨g, o + i * 3 + j, none⟩ = some u) := Lib.hid (by
    obtain ⟨p, cap, hpv, _, hc⟩ := HT.out.j
    simp only [TQ.v4, Value.slice.injEq] at hpv
    obtain ⟨rfl, _, rfl⟩ := hpv
    exact hc)
  obtain ⟨hs1, hs2, hs3, hs4, hs5⟩ := hs
  clear hT hm hN hL
  unfold TQ.v
  go_enter Tryz.func180, Tryz.ntmps180
  go_wp2
  go_loopw [3, 17] (fun ovv kv wr => ∃ (k : Nat) (ov : Value), ov = ovv ∧ kv = .int .i64 k ∧ k ≤ q.T.spans.length ∧ Hid (Has wr w.heap.size (.cells q.cs 28)) ∧ Hid (Own wr w.heap.size ov ((q.T.spans.take k).flatMap spR)) ∧ Below w.heap.size w wr) (fun _ k _ => q.T.spans.length - (intOf k).toNat)
  case atStart => exact ⟨0, _, rfl, rfl, Nat.zero_le _, HGw, Lib.hid (World.ownsRow_nil _ _ _ _), HBw.out⟩
  case round =>
    obtain ⟨k, ov, rfl, rfl, hk, HG, HO, hB⟩ := hrel
    have HB := Lib.hid hB
    have hBs := hB.size
    by_cases hlt : k < q.T.spans.length
    · obtain ⟨g, of, hp, hg, hx⟩ := C1.out k q.T.spans[k] (List.getElem?_eq_getElem hlt)
      have c0 := (hB.cell (p := ⟨g, of + k * 4, none⟩) hg).trans (hx 0 _ rfl)
      have c1 := (hB.cell (p := ⟨g, of + k * 4 + 1, none⟩) hg).trans (hx 1 _ rfl)
      have c2 := (hB.cell (p := ⟨g, of + k * 4 + 2, none⟩) hg).trans (hx 2 _ rfl)
      have c3 := (hB.cell (p := ⟨g, of + k * 4 + 3, none⟩) hg).trans (hx 3 _ rfl)
      obtain ⟨ek, hek⟩ : ∃ x, x = q.T.spans[k] := ⟨_, rfl⟩
      rw [← hek] at c0 c1 c2 c3
      have hmem : ek ∈ q.T.spans := by rw [hek]; exact List.getElem_mem _
      obtain ⟨pm, cm, hmv, hmc⟩ := HT.out.m ek hmem
      have hnil := HNN.out ek hmem
      have hml := HM.out ek hmem
      rw [hmv] at c3 hnil
      have hRM0 : RunesAt w (.slice pm ek.map.length cm) ek.map := ⟨pm, cm, rfl, hmc⟩
      have HRM := Lib.hid (And.intro hRM0 (And.intro hnil hml))
      have hfm := fm_take (f := spR) (c := 10) (l := q.T.spans) k (by have := HS.out; omega) (fun x hx => by have := HM.out x hx; simp only [spR, List.length_cons]; omega)
      obtain ⟨F, hF⟩ : ∃ F, F = (q.T.spans.take k).flatMap spR := ⟨_, rfl⟩
      have HSN : Hid ((q.T.spans.take (k + 1)).flatMap spR = F ++ ([ek.lo, ek.hi] ++ ek.map)) := Lib.hid (by rw [fm_snoc hlt, ← hek, hF]; simp [spR])
      have hFl : F.length ≤ 30000 := by rw [hF]; omega
      rw [← hF] at HO
      obtain ⟨po, co, rfl⟩ := own_span HO.out
      have HEX := Lib.hid (And.intro hmem (And.intro hek (And.intro hF hmc)))
      clear hx hek hB hmem hF hfm hRM0 hnil hml hmc
      go_wp2_with fail
      have e0 := (Has.new wr (.cells #[.int .i32 ek.lo, .int .i32 ek.hi, .int .u8 ek.st, .slice pm ek.map.length cm] 109)).cell 0 rfl
      have e1 := (Has.new wr (.cells #[.int .i32 ek.lo, .int .i32 ek.hi, .int .u8 ek.st, .slice pm ek.map.length cm] 109)).cell 1 rfl
      have e3 := (Has.new wr (.cells #[.int .i32 ek.lo, .int .i32 ek.hi, .int .u8 ek.st, .slice pm ek.map.length cm] 109)).cell 3 rfl
      have HN1 := Lib.hid (Has.new wr (.cells #[.int .i32 ek.lo, .int .i32 ek.hi, .int .u8 ek.st, .slice pm ek.map.length cm] 109))
      have HG1 := Lib.hid (HG.out.alloc (.cells #[.int .i32 ek.lo, .int .i32 ek.hi, .int .u8 ek.st, .slice pm ek.map.length cm] 109))
      have HO1 : Hid (Own (wr.alloc (.cells #[.int .i32 ek.lo, .int .i32 ek.hi, .int .u8 ek.st, .slice pm ek.map.length cm] 109)) w.heap.size (.slice po F.length co) F) := Lib.hid (HO.out.alloc (.cells #[.int .i32 ek.lo, .int .i32 ek.hi, .int .u8 ek.st, .slice pm ek.map.length cm] 109))
      have HB1 := Lib.hid (HB.out.alloc hBs (.cells #[.int .i32 ek.lo, .int .i32 ek.hi, .int .u8 ek.st, .slice pm ek.map.length cm] 109))
      obtain ⟨w1, hw1⟩ : ∃ w1, w1 = wr.alloc (.cells #[.int .i32 ek.lo, .int .i32 ek.hi, .int .u8 ek.st, .slice pm ek.map.length cm] 109) := ⟨_, rfl⟩
      obtain ⟨G, hG⟩ : ∃ G, G = wr.heap.size := ⟨_, rfl⟩
      rw [← hw1] at e0 e1 e3 HN1 HG1 HO1 HB1
      rw [← hG] at e0 e1 e3 HN1
      simp only [← hw1, ← hG]
      have hB1s := HB1.out.size
      have hGl : G < w1.heap.size := HN1.out.lt
      have HGE := Lib.hid (And.intro hw1 hG)
      have HBd := Lib.hid ((HB1.out.drew).alloc hB1s (.cells #[.int .i32 ek.lo, .int .i32 ek.hi] 21))
      have HOd : Hid (Own (w1.drew.alloc (.cells #[.int .i32 ek.lo, .int .i32 ek.hi] 21)) w.heap.size (.slice po F.length co) F) := Lib.hid (HO1.out.drew.alloc (.cells #[.int .i32 ek.lo, .int .i32 ek.hi] 21))
      have HGd : Hid (Has (w1.drew.alloc (.cells #[.int .i32 ek.lo, .int .i32 ek.hi] 21)) w.heap.size (.cells q.cs 28)) := Lib.hid (Has.alloc (w := w1.drew) HG1.out _)
      have HNd : Hid (Has (w1.drew.alloc (.cells #[.int .i32 ek.lo, .int .i32 ek.hi] 21)) G (.cells #[.int .i32 ek.lo, .int .i32 ek.hi, .int .u8 ek.st, .slice pm ek.map.length cm] 109)) := Lib.hid (Has.alloc (w := w1.drew) HN1.out _)
      have HRd : Hid (RunesAt (w1.drew.alloc (.cells #[.int .i32 ek.lo, .int .i32 ek.hi] 21)) (.slice (some ⟨w1.heap.size, 0, none⟩) 2 2) [ek.lo, ek.hi]) := Lib.hid (runes_lit (l := [ek.lo, ek.hi]) (Has.new w1.drew (.cells #[.int .i32 ek.lo, .int .i32 ek.hi] 21)) 2)
      clear hw1 hG
      go_region_held3 (fun w' => w'.cell? ⟨G, 0, none⟩ = some (.int .i32 ek.lo) ∧ w'.cell? ⟨G, 1, none⟩ = some (.int .i32 ek.hi) ∧ w'.cell? ⟨G, 3, none⟩ = some (.slice pm ek.map.length cm)) (first | (exact ⟨z0, z1, z3⟩) | (exact ⟨x0, x1, x3⟩) | (exact ⟨HNd.out.cell 0 rfl, HNd.out.cell 1 rfl, HNd.out.cell 3 rfl⟩) | go_keep) (first | (refine step_append_runes (by rfl) _ _ (by rfl) w.heap.size i0 Tryz.underlying29 hi hz0 hz1 hz2 (.slice po F.length co) F.length (F.map (Value.int .i32)) (by rfl) HOd.out (.slice (some ⟨w1.heap.size, 0, none⟩) 2 2) [ek.lo, ek.hi] (by rfl) HRd.out (fun n c e => by cases e) (by unfold maxLen; simp only [List.length_cons, List.length_nil]; omega) (by simp only [List.length_cons, List.length_nil]; omega) HBd.out.size ?_; intro v3 w3 hown3 hgrow3; have HN3 := Lib.hid (has_past (v := .slice po F.length co) HNd.out hgrow3 (own_ne HOd.out HNd.out (by decide))); have HG3 := Lib.hid (has_past (v := .slice po F.length co) HGd.out hgrow3 (own_ne HOd.out HGd.out (by decide))); have HO3 : Hid (Own w3 w.heap.size v3 (F ++ [ek.lo, ek.hi])) := Lib.hid (own_app hown3); have HB3 := Lib.hid (bel_grown (v := .slice po F.length co) HBd.out HOd.out hgrow3 HBd.out.size); have x0 : w3.cell? ⟨G, 0, none⟩ = some (.int .i32 ek.lo) := HN3.out.cell 0 rfl; have x1 : w3.cell? ⟨G, 1, none⟩ = some (.int .i32 ek.hi) := HN3.out.cell 1 rfl; have x3 : w3.cell? ⟨G, 3, none⟩ = some (.slice pm ek.map.length cm) := HN3.out.cell 3 rfl; clear hown3 hgrow3) | (refine step_append_runes (by rfl) _ _ (by rfl) w.heap.size i0 Tryz.underlying29 hi hz0 hz1 hz2 v3 (F ++ [ek.lo, ek.hi]).length ((F ++ [ek.lo, ek.hi]).map (Value.int .i32)) (by rfl) HO3.out (.slice pm ek.map.length cm) ek.map (by rfl) (HRM.out.1.below HB3.out) HRM.out.2.1 (by have := HRM.out.2.2; rw [List.length_append]; unfold maxLen; simp only [List.length_cons, List.length_nil]; omega) (by have := HRM.out.2.2; rw [List.length_append]; simp only [List.length_cons, List.length_nil]; omega) HB3.out.size ?_; intro v4 w4 hown4 hgrow4; have HN4 := Lib.hid (has_past (v := v3) HN3.out hgrow4 (own_ne HO3.out HN3.out (by decide))); have HG4 := Lib.hid (has_past (v := v3) HG3.out hgrow4 (own_ne HO3.out HG3.out (by decide))); have HO4 : Hid (Own w4 w.heap.size v4 ((F ++ [ek.lo, ek.hi]) ++ ek.map)) := Lib.hid (own_app hown4); have HB4 := Lib.hid (bel_grown (v := v3) HB3.out HO3.out hgrow4 HB3.out.size); have z0 : w4.cell? ⟨G, 0, none⟩ = some (.int .i32 ek.lo) := HN4.out.cell 0 rfl; have z1 : w4.cell? ⟨G, 1, none⟩ = some (.int .i32 ek.hi) := HN4.out.cell 1 rfl; have z3 : w4.cell? ⟨G, 3, none⟩ = some (.slice pm ek.map.length cm) := HN4.out.cell 3 rfl; clear hown4 hgrow4))
      all_goals
        go_wp2
        go_roundw
        case rel =>
          rw [hp]
          repeat apply Exists.intro
          refine And.symm ⟨rfl, ?_⟩
          exact ⟨k + 1, _, rfl, by go_num, by omega, HG4, Lib.hid (by rw [HSN.out, ← List.append_assoc]; exact HO4.out), HB4.out⟩
        case measure => simp [intOf]; omega
    · obtain rfl : k = q.T.spans.length := by omega
      obtain ⟨P2, hP⟩ : ∃ P, P = q.T.spans.flatMap spR := ⟨_, rfl⟩
      have hPo : Own wr w.heap.size ov P2 := by
        have := HO.out
        rw [List.take_length] at this
        rw [hP]
        exact this
      have hfm := fm_take (f := spR) (c := 10) (l := q.T.spans) q.T.spans.length (by have := HS.out; omega) (fun x hx => by have := HM.out x hx; simp only [spR, List.length_cons]; omega)
      rw [List.take_length] at hfm
      have hPl : P2.length ≤ 10240 := by rw [hP]; omega
      obtain ⟨po, co, rfl⟩ := own_span hPo
      have HP2 := Lib.hid (And.intro hPl (And.intro hP hPo))
      have n2 : wr.cell? ⟨w.heap.size, 1, none⟩ = some (.slice q.p1 q.T.classes.length q.c1) := HG.out.cell 1 rfl
      clear hB hPl hP hPo hfm HO
      go_wp2
      obtain ⟨wo, rfl⟩ : ∃ wo : World, wo = wr := ⟨_, rfl⟩
      go_loopw [3, 35] (fun ovv kv wr => ∃ (k : Nat) (ov : Value), ov = ovv ∧ kv = .int .i64 k ∧ k ≤ q.T.classes.length ∧ Hid (Has wr w.heap.size (.cells q.cs 28)) ∧ Hid (Own wr w.heap.size ov (P2 ++ (q.T.classes.take k).flatMap clR)) ∧ Below w.heap.size w wr) (fun _ k _ => q.T.classes.length - (intOf k).toNat)
      case atStart => exact ⟨0, _, rfl, rfl, Nat.zero_le _, HG, Lib.hid (by simpa using HP2.out.2.2), HB.out⟩
      case round =>
        obtain ⟨k, ov, rfl, rfl, hk, HG, HO, hB⟩ := hrel
        have HB := Lib.hid hB
        have hBs := hB.size
        by_cases hlt : k < q.T.classes.length
        · obtain ⟨g, of, hp, hg, hx⟩ := C2.out k q.T.classes[k] (List.getElem?_eq_getElem hlt)
          have c0 := (hB.cell (p := ⟨g, of + k * 2, none⟩) hg).trans (hx 0 _ rfl)
          have c1 := (hB.cell (p := ⟨g, of + k * 2 + 1, none⟩) hg).trans (hx 1 _ rfl)
          obtain ⟨ek, hek⟩ : ∃ x, x = q.T.classes[k] := ⟨_, rfl⟩
          rw [← hek] at c0 c1
          have hmem : ek ∈ q.T.classes := by rw [hek]; exact List.getElem_mem _
          have hfm := fm_take (f := clR) (c := 1) (l := q.T.classes) k (by have := HS.out; omega) (fun x hx => by simp [clR])
          obtain ⟨F, hF⟩ : ∃ F, F = P2 ++ (q.T.classes.take k).flatMap clR := ⟨_, rfl⟩
          have HSN : Hid (P2 ++ (q.T.classes.take (k + 1)).flatMap clR = F ++ ([ek.r])) := Lib.hid (by rw [fm_snoc hlt, ← hek, hF]; simp [clR])
          have hFl : F.length ≤ 30000 := by rw [hF]; rw [List.length_append]; have := HP2.out.1; omega
          rw [← hF] at HO
          obtain ⟨po, co, rfl⟩ := own_span HO.out
          have HGa := Lib.hid ((HG.out.alloc (.cells #[.int .i32 ek.r, .int .u8 ek.c] 74)).alloc (.cells #[.int .i32 ek.r] 21))
          have HBa := Lib.hid ((hB.alloc hBs (.cells #[.int .i32 ek.r, .int .u8 ek.c] 74)).alloc (by rw [World.size_alloc]; omega) (.cells #[.int .i32 ek.r] 21))
          have HOa : Hid (Own ((wr.alloc (.cells #[.int .i32 ek.r, .int .u8 ek.c] 74)).alloc (.cells #[.int .i32 ek.r] 21)) w.heap.size (.slice po F.length co) F) := Lib.hid ((HO.out.alloc (.cells #[.int .i32 ek.r, .int .u8 ek.c] 74)).alloc (.cells #[.int .i32 ek.r] 21))
          have hRa := Has.new (wr.alloc (.cells #[.int .i32 ek.r, .int .u8 ek.c] 74)) (.cells #[.int .i32 ek.r] 21)
          rw [World.size_alloc] at hRa
          have HRa := Lib.hid (runes_lit (l := [ek.r]) hRa 1)
          have hsza : w.heap.size ≤ ((wr.alloc (.cells #[.int .i32 ek.r, .int .u8 ek.c] 74)).alloc (.cells #[.int .i32 ek.r] 21)).heap.size := by rw [World.size_alloc, World.size_alloc]; omega
          have HSZ := Lib.hid hsza
          have HEX := Lib.hid (And.intro hmem (And.intro hek hF))
          clear hx hek hB hmem hF hfm hRa hsza
          go_wp2_with (at_builtin; refine wpList_append_runes (by rfl) _ _ rfl w.heap.size i0 Tryz.underlying29 hi hz0 hz1 hz2 (.slice po F.length co) F.length (F.map (Value.int .i32)) rfl HOa.out (.slice (some ⟨wr.heap.size + 1, 0, none⟩) 1 1) [ek.r] rfl HRa.out (fun n c e => by cases e) (by unfold maxLen; simp only [List.length_cons, List.length_nil]; omega) (by simp only [List.length_cons, List.length_nil]; omega) HSZ.out ?_; intro v4 w4 hown4 hgrow4; have HG4 : Hid (Has w4 w.heap.size (.cells q.cs 28)) := Lib.hid (has_past (v := .slice po F.length co) HGa.out hgrow4 (own_ne HOa.out HGa.out (by decide))); have HO4 : Hid (Own w4 w.heap.size v4 (F ++ [ek.r])) := Lib.hid (own_app hown4); have HB4 : Hid (Below w.heap.size w w4) := Lib.hid (bel_grown (v := .slice po F.length co) HBa.out HOa.out hgrow4 HSZ.out); clear hown4 hgrow4)
          go_roundw
          case rel =>
            rw [hp]
            repeat apply Exists.intro
            refine And.symm ⟨rfl, ?_⟩
            exact ⟨k + 1, _, rfl, by go_num, by omega, HG4, Lib.hid (by rw [HSN.out]; exact HO4.out), HB4.out⟩
          case measure => simp [intOf]; omega
        · obtain rfl : k = q.T.classes.length := by omega
          obtain ⟨P3, hP⟩ : ∃ P, P = q.T.spans.flatMap spR ++ q.T.classes.flatMap clR := ⟨_, rfl⟩
          have hPo : Own wr w.heap.size ov P3 := by
            have := HO.out
            rw [List.take_length] at this
            rw [hP]
            rw [HP2.out.2.1] at this; exact this
          have hfm := fm_take (f := clR) (c := 1) (l := q.T.classes) q.T.classes.length (by have := HS.out; omega) (fun x hx => by simp [clR])
          rw [List.take_length] at hfm
          have hPl : P3.length ≤ 11264 := by rw [hP, List.length_append]; have h1 := HP2.out.1; rw [HP2.out.2.1] at h1; omega
          obtain ⟨po, co, rfl⟩ := own_span hPo
          have HP3 := Lib.hid (And.intro hPl (And.intro hP hPo))
          have n3 : wr.cell? ⟨w.heap.size, 2, none⟩ = some (.slice q.p2 q.T.pairs.length q.c2) := HG.out.cell 2 rfl
          clear hB hPl hP hPo hfm HO
          go_wp2
          obtain ⟨wo, rfl⟩ : ∃ wo : World, wo = wr := ⟨_, rfl⟩
          go_loopw [3, 48] (fun ovv kv wr => ∃ (k : Nat) (ov : Value), ov = ovv ∧ kv = .int .i64 k ∧ k ≤ q.T.pairs.length ∧ Hid (Has wr w.heap.size (.cells q.cs 28)) ∧ Hid (Own wr w.heap.size ov (P3 ++ (q.T.pairs.take k).flatMap paR)) ∧ Below w.heap.size w wr) (fun _ k _ => q.T.pairs.length - (intOf k).toNat)
          case atStart => exact ⟨0, _, rfl, rfl, Nat.zero_le _, HG, Lib.hid (by simpa using HP3.out.2.2), HB.out⟩
          case round =>
            obtain ⟨k, ov, rfl, rfl, hk, HG, HO, hB⟩ := hrel
            have HB := Lib.hid hB
            have hBs := hB.size
            by_cases hlt : k < q.T.pairs.length
            · obtain ⟨g, of, hp, hg, hx⟩ := C3.out k q.T.pairs[k] (List.getElem?_eq_getElem hlt)
              have c0 := (hB.cell (p := ⟨g, of + k * 4, none⟩) hg).trans (hx 0 _ rfl)
              have c1 := (hB.cell (p := ⟨g, of + k * 4 + 1, none⟩) hg).trans (hx 1 _ rfl)
              have c2 := (hB.cell (p := ⟨g, of + k * 4 + 2, none⟩) hg).trans (hx 2 _ rfl)
              have c3 := (hB.cell (p := ⟨g, of + k * 4 + 3, none⟩) hg).trans (hx 3 _ rfl)
              obtain ⟨ek, hek⟩ : ∃ x, x = q.T.pairs[k] := ⟨_, rfl⟩
              rw [← hek] at c0 c1 c2 c3
              have hmem : ek ∈ q.T.pairs := by rw [hek]; exact List.getElem_mem _
              have hfm := fm_take (f := paR) (c := 3) (l := q.T.pairs) k (by have := HS.out; omega) (fun x hx => by simp [paR])
              obtain ⟨F, hF⟩ : ∃ F, F = P3 ++ (q.T.pairs.take k).flatMap paR := ⟨_, rfl⟩
              have HSN : Hid (P3 ++ (q.T.pairs.take (k + 1)).flatMap paR = F ++ ([ek.r, ek.a, ek.b])) := Lib.hid (by rw [fm_snoc hlt, ← hek, hF]; simp [paR])
              have hFl : F.length ≤ 30000 := by rw [hF]; rw [List.length_append]; have := HP3.out.1; omega
              rw [← hF] at HO
              obtain ⟨po, co, rfl⟩ := own_span HO.out
              have HGa := Lib.hid ((HG.out.alloc (.cells #[.int .i32 ek.r, .int .i32 ek.a, .int .i32 ek.b, .bool ek.one] 54)).alloc (.cells #[.int .i32 ek.r, .int .i32 ek.a, .int .i32 ek.b] 21))
              have HBa := Lib.hid ((hB.alloc hBs (.cells #[.int .i32 ek.r, .int .i32 ek.a, .int .i32 ek.b, .bool ek.one] 54)).alloc (by rw [World.size_alloc]; omega) (.cells #[.int .i32 ek.r, .int .i32 ek.a, .int .i32 ek.b] 21))
              have HOa : Hid (Own ((wr.alloc (.cells #[.int .i32 ek.r, .int .i32 ek.a, .int .i32 ek.b, .bool ek.one] 54)).alloc (.cells #[.int .i32 ek.r, .int .i32 ek.a, .int .i32 ek.b] 21)) w.heap.size (.slice po F.length co) F) := Lib.hid ((HO.out.alloc (.cells #[.int .i32 ek.r, .int .i32 ek.a, .int .i32 ek.b, .bool ek.one] 54)).alloc (.cells #[.int .i32 ek.r, .int .i32 ek.a, .int .i32 ek.b] 21))
              have hRa := Has.new (wr.alloc (.cells #[.int .i32 ek.r, .int .i32 ek.a, .int .i32 ek.b, .bool ek.one] 54)) (.cells #[.int .i32 ek.r, .int .i32 ek.a, .int .i32 ek.b] 21)
              rw [World.size_alloc] at hRa
              have HRa := Lib.hid (runes_lit (l := [ek.r, ek.a, ek.b]) hRa 3)
              have hsza : w.heap.size ≤ ((wr.alloc (.cells #[.int .i32 ek.r, .int .i32 ek.a, .int .i32 ek.b, .bool ek.one] 54)).alloc (.cells #[.int .i32 ek.r, .int .i32 ek.a, .int .i32 ek.b] 21)).heap.size := by rw [World.size_alloc, World.size_alloc]; omega
              have HSZ := Lib.hid hsza
              have HEX := Lib.hid (And.intro hmem (And.intro hek hF))
              clear hx hek hB hmem hF hfm hRa hsza
              go_wp2_with (at_builtin; refine wpList_append_runes (by rfl) _ _ rfl w.heap.size i0 Tryz.underlying29 hi hz0 hz1 hz2 (.slice po F.length co) F.length (F.map (Value.int .i32)) rfl HOa.out (.slice (some ⟨wr.heap.size + 1, 0, none⟩) 3 3) [ek.r, ek.a, ek.b] rfl HRa.out (fun n c e => by cases e) (by unfold maxLen; simp only [List.length_cons, List.length_nil]; omega) (by simp only [List.length_cons, List.length_nil]; omega) HSZ.out ?_; intro v4 w4 hown4 hgrow4; have HG4 : Hid (Has w4 w.heap.size (.cells q.cs 28)) := Lib.hid (has_past (v := .slice po F.length co) HGa.out hgrow4 (own_ne HOa.out HGa.out (by decide))); have HO4 : Hid (Own w4 w.heap.size v4 (F ++ [ek.r, ek.a, ek.b])) := Lib.hid (own_app hown4); have HB4 : Hid (Below w.heap.size w w4) := Lib.hid (bel_grown (v := .slice po F.length co) HBa.out HOa.out hgrow4 HSZ.out); clear hown4 hgrow4)
              go_roundw
              case rel =>
                rw [hp]
                repeat apply Exists.intro
                refine And.symm ⟨rfl, ?_⟩
                exact ⟨k + 1, _, rfl, by go_num, by omega, HG4, Lib.hid (by rw [HSN.out]; exact HO4.out), HB4.out⟩
              case measure => simp [intOf]; omega
            · obtain rfl : k = q.T.pairs.length := by omega
              obtain ⟨P4, hP⟩ : ∃ P, P = q.T.spans.flatMap spR ++ q.T.classes.flatMap clR ++ q.T.pairs.flatMap paR := ⟨_, rfl⟩
              have hPo : Own wr w.heap.size ov P4 := by
                have := HO.out
                rw [List.take_length] at this
                rw [hP]
                rw [HP3.out.2.1] at this; exact this
              have hfm := fm_take (f := paR) (c := 3) (l := q.T.pairs) q.T.pairs.length (by have := HS.out; omega) (fun x hx => by simp [paR])
              rw [List.take_length] at hfm
              have hPl : P4.length ≤ 14336 := by rw [hP, List.length_append]; have h1 := HP3.out.1; rw [HP3.out.2.1] at h1; omega
              obtain ⟨po, co, rfl⟩ := own_span hPo
              have HP4 := Lib.hid (And.intro hPl (And.intro hP hPo))
              have n4 : wr.cell? ⟨w.heap.size, 3, none⟩ = some (.slice q.p3 q.T.ways.length q.c3) := HG.out.cell 3 rfl
              clear hB hPl hP hPo hfm HO
              go_wp2
              obtain ⟨wo, rfl⟩ : ∃ wo : World, wo = wr := ⟨_, rfl⟩
              go_loopw [3, 65] (fun ovv kv wr => ∃ (k : Nat) (ov : Value), ov = ovv ∧ kv = .int .i64 k ∧ k ≤ q.T.ways.length ∧ Hid (Has wr w.heap.size (.cells q.cs 28)) ∧ Hid (Own wr w.heap.size ov (P4 ++ (q.T.ways.take k).flatMap sgR)) ∧ Below w.heap.size w wr) (fun _ k _ => q.T.ways.length - (intOf k).toNat)
              case atStart => exact ⟨0, _, rfl, rfl, Nat.zero_le _, HG, Lib.hid (by simpa using HP4.out.2.2), HB.out⟩
              case round =>
                obtain ⟨k, ov, rfl, rfl, hk, HG, HO, hB⟩ := hrel
                have HB := Lib.hid hB
                have hBs := hB.size
                by_cases hlt : k < q.T.ways.length
                · obtain ⟨g, of, hp, hg, hx⟩ := C4.out k q.T.ways[k] (List.getElem?_eq_getElem hlt)
                  have c0 := (hB.cell (p := ⟨g, of + k * 3, none⟩) hg).trans (hx 0 _ rfl)
                  have c1 := (hB.cell (p := ⟨g, of + k * 3 + 1, none⟩) hg).trans (hx 1 _ rfl)
                  have c2 := (hB.cell (p := ⟨g, of + k * 3 + 2, none⟩) hg).trans (hx 2 _ rfl)
                  obtain ⟨ek, hek⟩ : ∃ x, x = q.T.ways[k] := ⟨_, rfl⟩
                  rw [← hek] at c0 c1 c2
                  have hmem : ek ∈ q.T.ways := by rw [hek]; exact List.getElem_mem _
                  have hfm := fm_take (f := sgR) (c := 2) (l := q.T.ways) k (by have := HS.out; omega) (fun x hx => by simp [sgR])
                  obtain ⟨F, hF⟩ : ∃ F, F = P4 ++ (q.T.ways.take k).flatMap sgR := ⟨_, rfl⟩
                  have HSN : Hid (P4 ++ (q.T.ways.take (k + 1)).flatMap sgR = F ++ ([ek.lo, ek.hi])) := Lib.hid (by rw [fm_snoc hlt, ← hek, hF]; simp [sgR])
                  have hFl : F.length ≤ 30000 := by rw [hF]; rw [List.length_append]; have := HP4.out.1; omega
                  rw [← hF] at HO
                  obtain ⟨po, co, rfl⟩ := own_span HO.out
                  have HGa := Lib.hid ((HG.out.alloc (.cells #[.int .i32 ek.lo, .int .i32 ek.hi, .int .u8 ek.k] 183)).alloc (.cells #[.int .i32 ek.lo, .int .i32 ek.hi] 21))
                  have HBa := Lib.hid ((hB.alloc hBs (.cells #[.int .i32 ek.lo, .int .i32 ek.hi, .int .u8 ek.k] 183)).alloc (by rw [World.size_alloc]; omega) (.cells #[.int .i32 ek.lo, .int .i32 ek.hi] 21))
                  have HOa : Hid (Own ((wr.alloc (.cells #[.int .i32 ek.lo, .int .i32 ek.hi, .int .u8 ek.k] 183)).alloc (.cells #[.int .i32 ek.lo, .int .i32 ek.hi] 21)) w.heap.size (.slice po F.length co) F) := Lib.hid ((HO.out.alloc (.cells #[.int .i32 ek.lo, .int .i32 ek.hi, .int .u8 ek.k] 183)).alloc (.cells #[.int .i32 ek.lo, .int .i32 ek.hi] 21))
                  have hRa := Has.new (wr.alloc (.cells #[.int .i32 ek.lo, .int .i32 ek.hi, .int .u8 ek.k] 183)) (.cells #[.int .i32 ek.lo, .int .i32 ek.hi] 21)
                  rw [World.size_alloc] at hRa
                  have HRa := Lib.hid (runes_lit (l := [ek.lo, ek.hi]) hRa 2)
                  have hsza : w.heap.size ≤ ((wr.alloc (.cells #[.int .i32 ek.lo, .int .i32 ek.hi, .int .u8 ek.k] 183)).alloc (.cells #[.int .i32 ek.lo, .int .i32 ek.hi] 21)).heap.size := by rw [World.size_alloc, World.size_alloc]; omega
                  have HSZ := Lib.hid hsza
                  have HEX := Lib.hid (And.intro hmem (And.intro hek hF))
                  clear hx hek hB hmem hF hfm hRa hsza
                  go_wp2_with (at_builtin; refine wpList_append_runes (by rfl) _ _ rfl w.heap.size i0 Tryz.underlying29 hi hz0 hz1 hz2 (.slice po F.length co) F.length (F.map (Value.int .i32)) rfl HOa.out (.slice (some ⟨wr.heap.size + 1, 0, none⟩) 2 2) [ek.lo, ek.hi] rfl HRa.out (fun n c e => by cases e) (by unfold maxLen; simp only [List.length_cons, List.length_nil]; omega) (by simp only [List.length_cons, List.length_nil]; omega) HSZ.out ?_; intro v4 w4 hown4 hgrow4; have HG4 : Hid (Has w4 w.heap.size (.cells q.cs 28)) := Lib.hid (has_past (v := .slice po F.length co) HGa.out hgrow4 (own_ne HOa.out HGa.out (by decide))); have HO4 : Hid (Own w4 w.heap.size v4 (F ++ [ek.lo, ek.hi])) := Lib.hid (own_app hown4); have HB4 : Hid (Below w.heap.size w w4) := Lib.hid (bel_grown (v := .slice po F.length co) HBa.out HOa.out hgrow4 HSZ.out); clear hown4 hgrow4)
                  go_roundw
                  case rel =>
                    rw [hp]
                    repeat apply Exists.intro
                    refine And.symm ⟨rfl, ?_⟩
                    exact ⟨k + 1, _, rfl, by go_num, by omega, HG4, Lib.hid (by rw [HSN.out]; exact HO4.out), HB4.out⟩
                  case measure => simp [intOf]; omega
                · obtain rfl : k = q.T.ways.length := by omega
                  obtain ⟨P5, hP⟩ : ∃ P, P = q.T.spans.flatMap spR ++ q.T.classes.flatMap clR ++ q.T.pairs.flatMap paR ++ q.T.ways.flatMap sgR := ⟨_, rfl⟩
                  have hPo : Own wr w.heap.size ov P5 := by
                    have := HO.out
                    rw [List.take_length] at this
                    rw [hP]
                    rw [HP4.out.2.1] at this; exact this
                  have hfm := fm_take (f := sgR) (c := 2) (l := q.T.ways) q.T.ways.length (by have := HS.out; omega) (fun x hx => by simp [sgR])
                  rw [List.take_length] at hfm
                  have hPl : P5.length ≤ 16384 := by rw [hP, List.length_append]; have h1 := HP4.out.1; rw [HP4.out.2.1] at h1; omega
                  obtain ⟨po, co, rfl⟩ := own_span hPo
                  have HP5 := Lib.hid (And.intro hPl (And.intro hP hPo))
                  have n5 : wr.cell? ⟨w.heap.size, 4, none⟩ = some (.slice q.p4 q.T.joins.length q.c4) := HG.out.cell 4 rfl
                  clear hB hPl hP hPo hfm HO
                  go_wp2
                  obtain ⟨wo, rfl⟩ : ∃ wo : World, wo = wr := ⟨_, rfl⟩
                  go_loopw [3, 80] (fun ovv kv wr => ∃ (k : Nat) (ov : Value), ov = ovv ∧ kv = .int .i64 k ∧ k ≤ q.T.joins.length ∧ Hid (Has wr w.heap.size (.cells q.cs 28)) ∧ Hid (Own wr w.heap.size ov (P5 ++ (q.T.joins.take k).flatMap sgR)) ∧ Below w.heap.size w wr) (fun _ k _ => q.T.joins.length - (intOf k).toNat)
                  case atStart => exact ⟨0, _, rfl, rfl, Nat.zero_le _, HG, Lib.hid (by simpa using HP5.out.2.2), HB.out⟩
                  case round =>
                    obtain ⟨k, ov, rfl, rfl, hk, HG, HO, hB⟩ := hrel
                    have HB := Lib.hid hB
                    have hBs := hB.size
                    by_cases hlt : k < q.T.joins.length
                    · obtain ⟨g, of, hp, hg, hx⟩ := C5.out k q.T.joins[k] (List.getElem?_eq_getElem hlt)
                      have c0 := (hB.cell (p := ⟨g, of + k * 3, none⟩) hg).trans (hx 0 _ rfl)
                      have c1 := (hB.cell (p := ⟨g, of + k * 3 + 1, none⟩) hg).trans (hx 1 _ rfl)
                      have c2 := (hB.cell (p := ⟨g, of + k * 3 + 2, none⟩) hg).trans (hx 2 _ rfl)
                      obtain ⟨ek, hek⟩ : ∃ x, x = q.T.joins[k] := ⟨_, rfl⟩
                      rw [← hek] at c0 c1 c2
                      have hmem : ek ∈ q.T.joins := by rw [hek]; exact List.getElem_mem _
                      have hfm := fm_take (f := sgR) (c := 2) (l := q.T.joins) k (by have := HS.out; omega) (fun x hx => by simp [sgR])
                      obtain ⟨F, hF⟩ : ∃ F, F = P5 ++ (q.T.joins.take k).flatMap sgR := ⟨_, rfl⟩
                      have HSN : Hid (P5 ++ (q.T.joins.take (k + 1)).flatMap sgR = F ++ ([ek.lo, ek.hi])) := Lib.hid (by rw [fm_snoc hlt, ← hek, hF]; simp [sgR])
                      have hFl : F.length ≤ 30000 := by rw [hF]; rw [List.length_append]; have := HP5.out.1; omega
                      rw [← hF] at HO
                      obtain ⟨po, co, rfl⟩ := own_span HO.out
                      have HGa := Lib.hid ((HG.out.alloc (.cells #[.int .i32 ek.lo, .int .i32 ek.hi, .int .u8 ek.k] 205)).alloc (.cells #[.int .i32 ek.lo, .int .i32 ek.hi] 21))
                      have HBa := Lib.hid ((hB.alloc hBs (.cells #[.int .i32 ek.lo, .int .i32 ek.hi, .int .u8 ek.k] 205)).alloc (by rw [World.size_alloc]; omega) (.cells #[.int .i32 ek.lo, .int .i32 ek.hi] 21))
                      have HOa : Hid (Own ((wr.alloc (.cells #[.int .i32 ek.lo, .int .i32 ek.hi, .int .u8 ek.k] 205)).alloc (.cells #[.int .i32 ek.lo, .int .i32 ek.hi] 21)) w.heap.size (.slice po F.length co) F) := Lib.hid ((HO.out.alloc (.cells #[.int .i32 ek.lo, .int .i32 ek.hi, .int .u8 ek.k] 205)).alloc (.cells #[.int .i32 ek.lo, .int .i32 ek.hi] 21))
                      have hRa := Has.new (wr.alloc (.cells #[.int .i32 ek.lo, .int .i32 ek.hi, .int .u8 ek.k] 205)) (.cells #[.int .i32 ek.lo, .int .i32 ek.hi] 21)
                      rw [World.size_alloc] at hRa
                      have HRa := Lib.hid (runes_lit (l := [ek.lo, ek.hi]) hRa 2)
                      have hsza : w.heap.size ≤ ((wr.alloc (.cells #[.int .i32 ek.lo, .int .i32 ek.hi, .int .u8 ek.k] 205)).alloc (.cells #[.int .i32 ek.lo, .int .i32 ek.hi] 21)).heap.size := by rw [World.size_alloc, World.size_alloc]; omega
                      have HSZ := Lib.hid hsza
                      have HEX := Lib.hid (And.intro hmem (And.intro hek hF))
                      clear hx hek hB hmem hF hfm hRa hsza
                      go_wp2_with (at_builtin; refine wpList_append_runes (by rfl) _ _ rfl w.heap.size i0 Tryz.underlying29 hi hz0 hz1 hz2 (.slice po F.length co) F.length (F.map (Value.int .i32)) rfl HOa.out (.slice (some ⟨wr.heap.size + 1, 0, none⟩) 2 2) [ek.lo, ek.hi] rfl HRa.out (fun n c e => by cases e) (by unfold maxLen; simp only [List.length_cons, List.length_nil]; omega) (by simp only [List.length_cons, List.length_nil]; omega) HSZ.out ?_; intro v4 w4 hown4 hgrow4; have HG4 : Hid (Has w4 w.heap.size (.cells q.cs 28)) := Lib.hid (has_past (v := .slice po F.length co) HGa.out hgrow4 (own_ne HOa.out HGa.out (by decide))); have HO4 : Hid (Own w4 w.heap.size v4 (F ++ [ek.lo, ek.hi])) := Lib.hid (own_app hown4); have HB4 : Hid (Below w.heap.size w w4) := Lib.hid (bel_grown (v := .slice po F.length co) HBa.out HOa.out hgrow4 HSZ.out); clear hown4 hgrow4)
                      go_roundw
                      case rel =>
                        rw [hp]
                        repeat apply Exists.intro
                        refine And.symm ⟨rfl, ?_⟩
                        exact ⟨k + 1, _, rfl, by go_num, by omega, HG4, Lib.hid (by rw [HSN.out]; exact HO4.out), HB4.out⟩
                      case measure => simp [intOf]; omega
                    · obtain rfl : k = q.T.joins.length := by omega
                      have hPo : Own wr w.heap.size ov L := by
                        have := HO.out
                        rw [List.take_length, HP5.out.2.1] at this
                        rw [← HL.out]
                        exact this
                      obtain ⟨po, co, rfl⟩ := own_span hPo
                      have HPO := Lib.hid hPo
                      clear hB HO hPo
                      go_wp2
                      go_ret
                      exact ⟨_, rfl, HPO.out, HB.out⟩
end Go.Proofs.YtlpkcpacfldfaaaGreat
namespace Go.Proofs.YtlpkcpacfldfaaaGreat
open Go.RowKit N
open Go.Maps (Keyed)
open Go.WideMaps (KeyLaw)
open Go.ChangeMaps (setBlock heap_setBlock_same heap_setBlock_other)
theorem arr250 : Go.WideMaps.ArrKey Tryz.prog 250 21 2 := ⟨Tryz.underlying250, by kernel_rfl, by kernel_rfl, by kernel_rfl⟩
theorem klaw250 : KeyLaw Tryz.prog 250 := arr250.law
theorem law250 : Keyed Tryz.prog 250 := Keyed.of_law klaw250
theorem sizeT : ∃ m, Tryz.prog.types.size = m + 1 := ⟨Tryz.prog.types.size - 1, by have : 0 < Tryz.prog.types.size := of_decide_eq_true (by kernel_rfl); omega⟩
/-- what a pair reads as, as a key -/
def kl2 (x : Int × Int) : Lit := .string (keyBytes [.int .i32 x.1, .int .i32 x.2])
def Wf2 (x : Int × Int) : Prop := (Lit.int .i32 x.1).wf = true ∧ (Lit.int .i32 x.2).wf = true
theorem key2 {x : Int × Int} (h : Wf2 x) : keyOf Tryz.prog 250 (.agg #[.int .i32 x.1, .int .i32 x.2]) = some (kl2 x) := Go.WideMaps.keyOf_pair arr250 Tryz.underlying21 sizeT h.1 h.2
theorem kl2_inj {x y : Int × Int} (hx : Wf2 x) (hy : Wf2 y) (h : kl2 x = kl2 y) : x = y := by
  have h1 := key2 hx
  rw [h] at h1
  have := law250.inj h1 (key2 hy)
  simp only [Value.agg.injEq, Array.mk.injEq, List.cons.injEq, Value.int.injEq, true_and, and_true] at this
  exact Prod.ext this.1 this.2
theorem kl2_key {x : Int × Int} (hx : Wf2 x) : WideAt.IsKeyLit (kl2 x) := law250.key (key2 hx)
/-- 'm[k] op= v' in two steps -/
theorem entry_laws {w : World} {t k e : TypeId} {R : Value → Option (DataW Unit × List MemPlace)} {b n : Nat} {D : DataW Unit} (K : KeyLaw Tryz.prog k) (ht : Tryz.prog.underlying t = some (.map k e)) {z : Value} (hz : ∀ u : World, (zeroValue e).run Tryz.prog u = .ok z u) (hown : w.ownsMap Tryz.prog k R b n D) (hn : n < maxLen)
    {zd : DataW Unit} {zp : List MemPlace} (hzd : R z = some (zd, zp)) {key : Value} {kl : Lit} (hkey : keyOf Tryz.prog k key = some kl) :
    ∃ (v0 : Value) (st : Nat) (W1 : World) (D1 : DataW Unit), (Instr.mapEntry t (.map (some b)) key).run Tryz.prog w = .ok (.tuple #[v0, goInt st]) W1 ∧ W1.ownsMap Tryz.prog k R b (n + 1) D1 ∧ w.grownBy W1 (some b) ∧ D1.atKey kl zd = D.atKey kl zd ∧
      ∀ (w2 : World) (val : Value) (d : DataW Unit) (ps : List MemPlace), w2.heap[b]? = W1.heap[b]? → R val = some (d, ps) → ∃ W2, (Instr.entryStore t (.map (some b)) (goInt st) val).run Tryz.prog w2 = .ok () W2 ∧ W2.ownsMap Tryz.prog k R b (n + 1) (D.put kl d) ∧ w2.grownBy W2 (some b) := by
  have hK : Keyed Tryz.prog k := Keyed.of_law K
  obtain ⟨es, clock, hb, F, hs, hD⟩ := id hown
  obtain ⟨v0, st, es1, clock1, hrun, hv0, hstore⟩ := WideElems.entry_then_store K ht hz hb F hkey
  have hblk : ∀ o, w.grownBy (setBlock w b o) (some b) := fun o => ⟨rfl, rfl, rfl, by simp [setBlock], fun i _ hi => heap_setBlock_other hb _ (fun e => hi (by rw [e]))⟩
  have hsto : ∀ (w2 : World) (val : Value) (d : DataW Unit) (ps : List MemPlace), w2.heap[b]? = some (.map es1 clock1) → R val = some (d, ps) → ∃ W2, (Instr.entryStore t (.map (some b)) (goInt st) val).run Tryz.prog w2 = .ok () W2 ∧ W2.ownsMap Tryz.prog k R b (n + 1) (D.put kl d) ∧ w2.grownBy W2 (some b) := by
    intro w2 val d ps h2 hval
    obtain ⟨es', clock', hr1, hr2⟩ := hstore w2 val h2
    obtain ⟨w', hr3, ho, _⟩ := hown.update hK ht hn hkey hval
    rw [hr2] at hr3
    injection hr3 with _ hr3
    obtain ⟨es3, clock3, hb3, F3, hs3, hD3⟩ := ho
    rw [← hr3, heap_setBlock_same hb] at hb3
    injection hb3 with hb3
    injection hb3 with e1 e2
    subst e1 e2
    exact ⟨_, hr1, ⟨_, _, heap_setBlock_same h2 _, F3, hs3, hD3⟩, ⟨rfl, rfl, rfl, by simp [setBlock], fun i _ hi => heap_setBlock_other h2 _ (fun e => hi (by rw [e]))⟩⟩
  have hW1 : (setBlock w b (.map es1 clock1)).heap[b]? = some (.map es1 clock1) := heap_setBlock_same hb _
  have hsame1 : ∀ (es2 : Array MapEntry) (clock2 : Nat) (v : Value), (Instr.mapEntry t (.map (some b)) key).run Tryz.prog w = .ok v (setBlock w b (.map es2 clock2)) → es1 = es2 ∧ clock1 = clock2 := by
    intro es2 clock2 v hr
    rw [hrun] at hr
    injection hr with _ hr
    have h2 : (setBlock w b (.map es2 clock2)).heap[b]? = some (.map es2 clock2) := heap_setBlock_same hb _
    rw [← hr, hW1] at h2
    injection h2 with h2
    injection h2 with e1 e2
    exact ⟨e1, e2⟩
  rcases K.find w hkey es.toList F.keys with ⟨h1, h2⟩ | ⟨j, e0, h1, h2, h3⟩
  · have hr2 : (Instr.mapEntry t (.map (some b)) key).run Tryz.prog w = .ok (.tuple #[z, goInt clock]) (setBlock w b (.map (es.push ⟨key, z, clock⟩) (clock + 1))) := by
      simp [Instr.mapEntry, run_underlying ht, MapKept.run_getObj_map hb, K.check w false hkey, h1, hz, MapKept.run_setObj_map _ hb, Result.andThen, setBlock]
    have hr3 : (Instr.mapUpdate t (.map (some b)) key z).run Tryz.prog w = .ok () (setBlock w b (.map (es.push ⟨key, z, clock⟩) (clock + 1))) := by
      simp [Instr.mapUpdate, run_underlying ht, MapKept.run_getObj_map hb, K.check w false hkey, h1, MapKept.run_setObj_map _ hb, Result.andThen, setBlock]
    obtain ⟨e1, e2⟩ := hsame1 _ _ _ hr2
    obtain ⟨w', hr4, ho, _⟩ := hown.update hK ht hn hkey hzd
    rw [hr3] at hr4
    injection hr4 with _ hr4
    refine ⟨v0, st, _, D.put kl zd, hrun, by rw [e1, e2, hr4]; exact ho, hblk _, ?_, fun w2 val d ps hw2 hval => hsto w2 val d ps (hw2.trans hW1) hval⟩
    rw [Maps.atKey_put_same hown.isMap (hK.key hkey)]
    rcases Maps.fit_look false hK ht (hz w) hb F hkey with ⟨hl1, hl2, hat⟩ | ⟨x, y, hx1, hx2, _⟩
    · rw [hD]; exact (hat zd).symm
    · exact absurd hx2 (h2 x hx1)
  · have hr2 : (Instr.mapEntry t (.map (some b)) key).run Tryz.prog w = .ok (.tuple #[e0.val, goInt e0.born]) (setBlock w b (.map es clock)) := by
      have hj : es[j]? = some e0 := by simpa using h2
      have hsm : es.modify j (fun e => { e with key := key }) = es := by
        apply Array.ext'
        rw [Array.toList_modify, Go.ChangeMaps.modify_eq_set _ _ _ _ h2]
        have : ({ e0 with key := key } : MapEntry) = e0 := by rw [← h3]
        rw [this]
        exact WideElems.set_self _ _ _ h2
      simp [Instr.mapEntry, run_underlying ht, MapKept.run_getObj_map hb, K.check w false hkey, h1, hj, h3, K.stays w hkey, hsm, MapKept.run_setObj_map _ hb, Result.andThen, setBlock]
    obtain ⟨e1, e2⟩ := hsame1 _ _ _ hr2
    refine ⟨v0, st, _, D, hrun, ⟨es1, clock1, hW1, by rw [e1, e2]; exact F, by rw [e1]; omega, by rw [e1]; exact hD⟩, hblk _, rfl, fun w2 val d ps hw2 hval => hsto w2 val d ps (hw2.trans hW1) hval⟩
end Go.Proofs.YtlpkcpacfldfaaaGreat
namespace Go.Proofs.YtlpkcpacfldfaaaGreat
open Go.RowKit N
open Go.Maps (Keyed)
/-- the parts of the pairs that are put together again -/
def distP (l : List Pa) : List (Int × Int) := (l.filter (fun x => !x.one)).map (fun x => (x.a, x.b))
def distB (l : List Pa) : Bool := decide (distP l).Nodup
theorem distP_one {l : List Pa} {k : Nat} (h : k < l.length) (ho : l[k].one = true) : distP (l.take (k + 1)) = distP (l.take k) := by
  unfold distP
  rw [take_snoc l k h, List.filter_append]
  simp [ho]
theorem distP_two {l : List Pa} {k : Nat} (h : k < l.length) (ho : l[k].one = false) : distP (l.take (k + 1)) = distP (l.take k) ++ [(l[k].a, l[k].b)] := by
  unfold distP
  rw [take_snoc l k h, List.filter_append]
  simp [ho]
theorem distP_len (l : List Pa) : (distP l).length ≤ l.length := by
  unfold distP
  rw [List.length_map]
  exact List.length_filter_le _ _
abbrev z64 : DataW Unit := .lit (.int .i64 0)
/-- D counts the pairs of l -/
structure Cnt (D : DataW Unit) (l : List (Int × Int)) : Prop where
  m : Maps.IsMap D
  at' : ∀ x, Wf2 x → D.atKey (kl2 x) z64 = .lit (.int .i64 (l.count x : Nat))
  has : ∀ z, Maps.has D z = true → ∃ x, x ∈ l ∧ Wf2 x ∧ z = kl2 x
  all : ∀ x ∈ l, Maps.has D (kl2 x) = true
theorem cnt_none : Cnt (.map []) [] := ⟨⟨_, rfl⟩, fun x _ => rfl, fun z h => by simp [Maps.has] at h, fun x h => by cases h⟩
theorem cnt_put {D : DataW Unit} {l : List (Int × Int)} (h : Cnt D l) {x : Int × Int} (hx : Wf2 x) : Cnt (D.put (kl2 x) (.lit (.int .i64 ((l.count x : Nat) + 1 : Int)))) (l ++ [x]) := by
  refine ⟨h.m.put _ _, fun y hy => ?_, fun z hz => ?_, fun y hy => ?_⟩
  · by_cases e : y = x
    · subst e
      rw [Maps.atKey_put_same h.m (kl2_key hx), List.count_append]
      simp
    · have hne : kl2 y ≠ kl2 x := fun he => e (kl2_inj hy hx he)
      rw [Maps.atKey_put_other hne, h.at' y hy, List.count_append]
      have : [x].count y = 0 := by rw [List.count_eq_zero]; simpa using e
      rw [this]; rfl
  · by_cases e : z = kl2 x
    · exact ⟨x, by simp, hx, e⟩
    · rw [Maps.has_put_other e] at hz
      obtain ⟨y, hy, hw, rfl⟩ := h.has z hz
      exact ⟨y, by simp [hy], hw, rfl⟩
  · by_cases e : kl2 y = kl2 x
    · rw [e]; exact Maps.has_put_same h.m (kl2_key hx) _
    · rw [Maps.has_put_other e]
      rcases List.mem_append.1 hy with hy | hy
      · exact h.all y hy
      · simp at hy; subst hy; exact absurd rfl e
theorem zero3 (w : World) : (zeroValue 3).run Tryz.prog w = .ok (.int .i64 0) w := by kernel_rfl
theorem step_look {w : World} {ops : Array Oper} {o : Oper} {a : Act} {K : Act → World → Prop} {Q : Exit → Act → World → Prop} {E : Prop} (hgd : o.guard = none) (m x : Operand) (hop : o.op = Op.lookup 249 m x false)
    (b n : Nat) (D : DataW Unit) (hm : a.eval m = .map (some b)) (hown : w.ownsMap Tryz.prog 250 (plainElem Tryz.prog 3) b n D) (p : Int × Int) (hx : a.eval x = .agg #[.int .i32 p.1, .int .i32 p.2]) (hp : Wf2 p) (c : Int) (hc : D.atKey (kl2 p) z64 = .lit (.int .i64 c))
    (h : K (a.put o.dst (.int .i64 c)) w) : if Region.wanted o (yielded ops a.tmps) = true then Oper.wp Tryz.prog o a w K Q else E := by
  have hw : Region.wanted o (yielded ops a.tmps) = true := by simp [Region.wanted, hgd]
  rw [if_pos hw]
  obtain ⟨c', hrun, hat, _⟩ := hown.lookup_int law250 Tryz.underlying249 Tryz.underlying3 (zero3 w) (key2 hp)
  rw [hc] at hat
  simp only [DataW.lit.injEq, Lit.int.injEq, true_and] at hat
  subst hat
  unfold Oper.wp
  simp [execOp, hop, hm, hx, hrun, Result.andThen]
  exact h
/-- the store that ends 'm[k] op= v' -/
def Stores (W1 : World) (b n st : Nat) (D : DataW Unit) (p : Int × Int) : Prop := ∀ (w2 : World) (val : Value) (d : DataW Unit) (ps : List MemPlace), w2.heap[b]? = W1.heap[b]? → plainElem (H := Unit) Tryz.prog 3 val = some (d, ps) → ∃ W2, (Instr.entryStore 249 (.map (some b)) (goInt st) val).run Tryz.prog w2 = .ok () W2 ∧ W2.ownsMap Tryz.prog 250 (plainElem Tryz.prog 3) b (n + 1) (D.put (kl2 p) d) ∧ w2.grownBy W2 (some b)
theorem step_entry {w : World} {ops : Array Oper} {o : Oper} {a : Act} {K : Act → World → Prop} {Q : Exit → Act → World → Prop} {E : Prop} (hgd : o.guard = none) (m x : Operand) (hop : o.op = Op.mapEntry 249 m x)
    (b n : Nat) (D : DataW Unit) (hm : a.eval m = .map (some b)) (hown : w.ownsMap Tryz.prog 250 (plainElem Tryz.prog 3) b n D) (hn : n < maxLen) (p : Int × Int) (hx : a.eval x = .agg #[.int .i32 p.1, .int .i32 p.2]) (hp : Wf2 p)
    (h : ∀ (v0 : Value) (st : Nat) (W1 : World) (D1 : DataW Unit), W1.ownsMap Tryz.prog 250 (plainElem Tryz.prog 3) b (n + 1) D1 → w.grownBy W1 (some b) → D1.atKey (kl2 p) z64 = D.atKey (kl2 p) z64 → Stores W1 b n st D p → K (a.put o.dst (.tuple #[v0, .int .i64 (st : Int)])) W1) : if Region.wanted o (yielded ops a.tmps) = true then Oper.wp Tryz.prog o a w K Q else E := by
  have hw : Region.wanted o (yielded ops a.tmps) = true := by simp [Region.wanted, hgd]
  rw [if_pos hw]
  obtain ⟨v0, st, W1, D1, hrun, h1, h2, h3, h4⟩ := entry_laws klaw250 Tryz.underlying249 zero3 hown hn (plainElem_int Tryz.underlying3 (by decide)) (key2 hp)
  unfold Oper.wp
  simp [execOp, hop, hm, hx, hrun, Result.andThen]
  exact h v0 st W1 D1 h1 h2 h3 h4
theorem step_store {w : World} {ops : Array Oper} {o : Oper} {a : Act} {K : Act → World → Prop} {Q : Exit → Act → World → Prop} {E : Prop} (hgd : o.guard = none) (m s x : Operand) (hop : o.op = Op.entryStore 249 m s x)
    (b n st : Nat) (D : DataW Unit) (p : Int × Int) (hm : a.eval m = .map (some b)) (hs : a.eval s = .int .i64 (st : Int)) (c : Int) (hx : a.eval x = .int .i64 c) (hc : (Lit.int .i64 c).wf = true) (hst : Stores w b n st D p)
    (h : ∀ W2, W2.ownsMap Tryz.prog 250 (plainElem Tryz.prog 3) b (n + 1) (D.put (kl2 p) (.lit (.int .i64 c))) → w.grownBy W2 (some b) → K (a.put o.dst undef) W2) : if Region.wanted o (yielded ops a.tmps) = true then Oper.wp Tryz.prog o a w K Q else E := by
  have hw : Region.wanted o (yielded ops a.tmps) = true := by simp [Region.wanted, hgd]
  rw [if_pos hw]
  obtain ⟨W2, hrun, h1, h2⟩ := hst w (.int .i64 c) _ _ rfl (plainElem_int Tryz.underlying3 hc)
  have hrun' : (Instr.entryStore 249 (.map (some b)) (.int .i64 (st : Int)) (.int .i64 c)).run Tryz.prog w = .ok () W2 := hrun
  unfold Oper.wp
  simp [execOp, hop, hm, hs, hx, hrun', Result.andThen]
  exact h W2 h1 h2
end Go.Proofs.YtlpkcpacfldfaaaGreat
namespace Go.Proofs.YtlpkcpacfldfaaaGreat
open Go.RowKit N
theorem nodup_count {l : List (Int × Int)} (h : ∀ x ∈ l, l.count x ≤ 1) : l.Nodup := by
  rw [List.nodup_iff_count]
  intro x
  by_cases hx : x ∈ l
  · exact h x hx
  · rw [List.count_eq_zero.2 hx]; omega
theorem cells_ne_map' {w : World} {g m : Nat} {cs : Array Value} {t : TypeId} {es : Array MapEntry} {c : Nat} (h : Has w g (.cells cs t)) (k : w.heap[m]? = some (.map es c)) : g ≠ m := fun e => by
  unfold Has at h
  rw [e, k] at h
  injection h with h
  cases h
theorem look_at {w : World} {b n : Nat} {D : DataW Unit} (hown : w.ownsMap Tryz.prog 250 (plainElem Tryz.prog 3) b n D) {p : Int × Int} (hp : Wf2 p) {c : Int} (hc : D.atKey (kl2 p) z64 = .lit (.int .i64 c)) : (Instr.lookup 249 (.map (some b)) (.agg #[.int .i32 p.1, .int .i32 p.2]) false).run Tryz.prog w = .ok (.int .i64 c) w := by
  obtain ⟨c', hrun, hat, _⟩ := hown.lookup_int law250 Tryz.underlying249 Tryz.underlying3 (zero3 w) (key2 hp)
  rw [hc] at hat
  simp only [DataW.lit.injEq, Lit.int.injEq, true_and] at hat
  subst hat
  exact hrun
set_option maxRecDepth 20000 in
set_option maxHeartbeats 8000000 in
theorem distinct_is (q : TQ) (b : Bool) (hb : distB q.T.pairs = b) (w : World) (hs : q.T.pairs.length ≤ 1024) (hP : PairWf q.T) (hT : TabAt w q) :
    Calls Tryz.prog 163 #[q.v2] w fun e w' => e = .returned (.bool b) ∧ Below w.heap.size w w' := by
  have hmm := @run_makeMap Tryz.prog
  have HB0 := Lib.hid hb
  have HP := Lib.hid hP
  have C3 : Hid (∀ i x, q.T.pairs[i]? = some x → ∃ g o, q.p2 = some ⟨g, o, none⟩ ∧ g < w.heap.size ∧ ∀ j u, (encPa x)[j]? = some u → w.cell? ⟨g, o + i * 4 + j, none⟩ = some u) := Lib.hid (by
    obtain ⟨p, cap, hpv, _, hc⟩ := hT.p
    simp only [TQ.v2, Value.slice.injEq] at hpv
    obtain ⟨rfl, _, rfl⟩ := hpv
    exact hc)
  have HMw : Hid ((w.alloc (.map #[] 0)).ownsMap Tryz.prog 250 (plainElem Tryz.prog 3) w.heap.size 0 (.map [] : DataW Unit)) := Lib.hid (World.ownsMap_made _ _ _ _)
  have HBw := Lib.hid (bnew w (.map #[] 0))
  clear hb hP hT
  unfold TQ.v2
  go_enter Tryz.func163, Tryz.ntmps163
  go_wp2
  clear hmm
  go_loopw [11] (fun kv wr => ∃ (k : Nat) (D : DataW Unit), kv = .int .i64 k ∧ k ≤ q.T.pairs.length ∧ Hid (wr.ownsMap Tryz.prog 250 (plainElem Tryz.prog 3) w.heap.size k D) ∧ Hid (Cnt D (distP (q.T.pairs.take k))) ∧ Below w.heap.size w wr) (fun k _ => q.T.pairs.length - (intOf k).toNat)
  case atStart => exact ⟨0, _, rfl, Nat.zero_le _, HMw, Lib.hid (by simpa [distP] using cnt_none), HBw.out⟩
  case round =>
    obtain ⟨k, D, rfl, hk, HM, HC, hB⟩ := hrel
    have HB := Lib.hid hB
    have hBs := hB.size
    by_cases hlt : k < q.T.pairs.length
    · obtain ⟨g, of, hp, hg, hx⟩ := C3.out k q.T.pairs[k] (List.getElem?_eq_getElem hlt)
      have c0 := (hB.cell (p := ⟨g, of + k * 4, none⟩) hg).trans (hx 0 _ rfl)
      have c1 := (hB.cell (p := ⟨g, of + k * 4 + 1, none⟩) hg).trans (hx 1 _ rfl)
      have c2 := (hB.cell (p := ⟨g, of + k * 4 + 2, none⟩) hg).trans (hx 2 _ rfl)
      have c3 := (hB.cell (p := ⟨g, of + k * 4 + 3, none⟩) hg).trans (hx 3 _ rfl)
      obtain ⟨ek, hek⟩ : ∃ x, x = q.T.pairs[k] := ⟨_, rfl⟩
      rw [← hek] at c0 c1 c2 c3
      have hmem : ek ∈ q.T.pairs := by rw [hek]; exact List.getElem_mem _
      have hwf : Wf2 (ek.a, ek.b) := (HP.out ek hmem).2
      have HW := Lib.hid hwf
      have HK := Lib.hid hek
      clear hx hB hmem hek hwf
      by_cases ho : ek.one = true
      · have HD : Hid (distP (q.T.pairs.take (k + 1)) = distP (q.T.pairs.take k)) := Lib.hid (distP_one hlt (by rw [← HK.out]; exact ho))
        go_wp2
        go_roundw
        case rel => exact ⟨k + 1, D, by go_num, by omega, Lib.hid ((HM.out.alloc _).mono (Nat.le_succ _)), Lib.hid (by rw [HD.out]; exact HC.out), HB.out.alloc hBs _⟩
        case measure => simp [intOf]; omega
      · have ho' : ek.one = false := by simpa using ho
        obtain ⟨n, hn⟩ : ∃ n, (distP (q.T.pairs.take k)).count (ek.a, ek.b) = n := ⟨_, rfl⟩
        have hnk : n ≤ 1024 := by
          have h1 := List.count_le_length (a := (ek.a, ek.b)) (l := distP (q.T.pairs.take k))
          have h2 := distP_len (q.T.pairs.take k)
          rw [List.length_take] at h2
          omega
        have HCA : Hid (D.atKey (kl2 (ek.a, ek.b)) z64 = .lit (.int .i64 (n : Int))) := Lib.hid (by rw [HC.out.at' _ HW.out, hn])
        have HD : Hid (Cnt (D.put (kl2 (ek.a, ek.b)) (.lit (.int .i64 ((n : Nat) + 1 : Int)))) (distP (q.T.pairs.take (k + 1)))) := Lib.hid (by
          rw [distP_two hlt (by rw [← HK.out]; exact ho'), ← HK.out, ← hn]
          exact cnt_put HC.out HW.out)
        have hwfn : (Lit.int .i64 ((n : Int) + 1)).wf = true := WalkArith.wf_i64 (by omega)
        have HWN := Lib.hid hwfn
        clear ho hn hwfn
        go_wp2_with fail
        have hnb := Has.new wr (.cells #[.int .i32 ek.r, .int .i32 ek.a, .int .i32 ek.b, .bool false] 54)
        have e1 := hnb.cell 1 rfl
        have e2 := hnb.cell 2 rfl
        have HN1 := Lib.hid hnb
        have HM1 := Lib.hid (HM.out.alloc (.cells #[.int .i32 ek.r, .int .i32 ek.a, .int .i32 ek.b, .bool false] 54))
        have HB1 := Lib.hid (HB.out.alloc hBs (.cells #[.int .i32 ek.r, .int .i32 ek.a, .int .i32 ek.b, .bool false] 54))
        obtain ⟨w1, hw1⟩ : ∃ w1, w1 = wr.alloc (.cells #[.int .i32 ek.r, .int .i32 ek.a, .int .i32 ek.b, .bool false] 54) := ⟨_, rfl⟩
        obtain ⟨G, hG⟩ : ∃ G, G = wr.heap.size := ⟨_, rfl⟩
        rw [← hw1] at e1 e2 HN1 HM1 HB1
        rw [← hG] at e1 e2 HN1
        simp only [← hw1, ← hG]
        have hB1s := HB1.out.size
        have hGl : G < w1.heap.size := HN1.out.lt
        have hGm : G ≠ w.heap.size := fun e => by
          obtain ⟨es, c, hb, _⟩ := HM1.out
          exact cells_ne_map' HN1.out hb e
        have HMd : Hid (w1.drew.ownsMap Tryz.prog 250 (plainElem Tryz.prog 3) w.heap.size k D) := Lib.hid HM1.out.drew
        have HNd : Hid (Has w1.drew G (.cells #[.int .i32 ek.r, .int .i32 ek.a, .int .i32 ek.b, .bool false] 54)) := Lib.hid HN1.out
        have HBd := Lib.hid HB1.out.drew
        have hsum : IntKind.i64.wrap ((n : Int) + 1) = (n : Int) + 1 := IntWalk.i64_in _ (by omega)
        have hkm : k < maxLen := by unfold maxLen; omega
        obtain ⟨v0, st, W1, D1, hr1, hm1, hg1, ha1, hs1⟩ := entry_laws klaw250 Tryz.underlying249 zero3 HMd.out hkm (plainElem_int Tryz.underlying3 (by decide)) (key2 HW.out)
        obtain ⟨W2, hr2, hm2, hg2⟩ := hs1 W1 (.int .i64 ((n : Int) + 1)) _ _ rfl (plainElem_int Tryz.underlying3 HWN.out)
        have HA3 : D1.atKey (kl2 (ek.a, ek.b)) z64 = .lit (.int .i64 (n : Int)) := ha1.trans HCA.out
        have hl1 := look_at HMd.out HW.out HCA.out
        have hl2 := look_at hm1 HW.out HA3
        have HN3 := HNd.out.grown hg1 (fun e => hGm (by injection e))
        have HN4 := HN3.grown hg2 (fun e => hGm (by injection e))
        have HB3 : Below w.heap.size w W1 := HBd.out.grown hg1 HBd.out.size (fun kk hkk => by cases hkk; exact Nat.le_refl _)
        have HB4 : Hid (Below w.heap.size w W2) := Lib.hid (HB3.grown hg2 HB3.size (fun kk hkk => by cases hkk; exact Nat.le_refl _))
        have x1 : W1.cell? ⟨G, 1, none⟩ = some (.int .i32 ek.a) := HN3.cell 1 rfl
        have x2 : W1.cell? ⟨G, 2, none⟩ = some (.int .i32 ek.b) := HN3.cell 2 rfl
        have z1 : W2.cell? ⟨G, 1, none⟩ = some (.int .i32 ek.a) := HN4.cell 1 rfl
        have z2 : W2.cell? ⟨G, 2, none⟩ = some (.int .i32 ek.b) := HN4.cell 2 rfl
        have y1 : w1.drew.cell? ⟨G, 1, none⟩ = some (.int .i32 ek.a) := HNd.out.cell 1 rfl
        have y2 : w1.drew.cell? ⟨G, 2, none⟩ = some (.int .i32 ek.b) := HNd.out.cell 2 rfl
        have HM4 := Lib.hid hm2
        have hr1' : (Instr.mapEntry 249 (.map (some w.heap.size)) (.agg #[.int .i32 ek.a, .int .i32 ek.b])).run Tryz.prog w1.drew = .ok (.tuple #[v0, .int .i64 (st : Int)]) W1 := hr1
        have hr2' : (Instr.entryStore 249 (.map (some w.heap.size)) (.int .i64 (st : Int)) (.int .i64 ((n : Int) + 1))).run Tryz.prog W1 = .ok () W2 := hr2
        clear hw1 hG hnb hr1 hr2 hs1 hm1 hm2 hg1 hg2 ha1 HA3 HN3 HN4 HB3
        go_region_held3 (fun w' => w'.cell? ⟨G, 1, none⟩ = some (.int .i32 ek.a) ∧ w'.cell? ⟨G, 2, none⟩ = some (.int .i32 ek.b)) (first | (exact ⟨z1, z2⟩) | (exact ⟨x1, x2⟩) | (exact ⟨y1, y2⟩) | go_keep) (fail)
        all_goals
          clear hsum hkm hl1 hl2 hr1' hr2' x1 x2 y1 y2 z1 z2
          go_wp2
          go_roundw
          case rel =>
            rw [hp]
            repeat apply Exists.intro
            refine And.symm ⟨rfl, ?_⟩
            exact ⟨k + 1, _, by go_num, by omega, HM4, HD, HB4.out⟩
          case measure => simp [intOf]; omega
    · obtain rfl : k = q.T.pairs.length := by omega
      have HCn : Hid (Cnt D (distP q.T.pairs)) := Lib.hid (by have := HC.out; rw [List.take_length] at this; exact this)
      have HWf : Hid (∀ x ∈ distP q.T.pairs, Wf2 x) := Lib.hid (fun x hx => by
        obtain ⟨y, hy, rfl⟩ := List.mem_map.1 hx
        exact (HP.out y (List.mem_filter.1 hy).1).2)
      obtain ⟨P, hPd⟩ : ∃ P, P = distP q.T.pairs := ⟨_, rfl⟩
      have HBn : Hid (decide P.Nodup = b) := Lib.hid (by rw [hPd]; exact HB0.out)
      rw [← hPd] at HCn HWf
      clear hB HC hPd
      go_wp2_with (first | (at_range; refine wpList_range_own _ rfl _ 249 rfl 250 3 law250 Tryz.underlying249 _ w.heap.size q.T.pairs.length D rfl HM.out ?_; intro w0 hrg0 hg0 hs0) | fail)
      have HR0 := Lib.hid hrg0
      have HBr : Hid (Below w.heap.size w w0) := Lib.hid (HB.out.grown hg0 hBs (fun kk hkk => by cases hkk))
      obtain ⟨r, hr⟩ : ∃ r, r = wr.heap.size := ⟨_, rfl⟩
      rw [← hr] at HR0
      simp only [← hr]
      have hrm : w.heap.size ≤ r := by omega
      clear hrg0 hg0 hs0 hr HB hBs HM
      go_frame
      obtain ⟨wo, rfl⟩ : ∃ wo : World, wo = wr := ⟨_, rfl⟩
      go_loopw [7] (fun _ wr => ∃ (left : Lit → Bool) (cnt : Nat), Hid (wr.ranges Tryz.prog 250 (plainElem Tryz.prog 3) w.heap.size r q.T.pairs.length D left cnt) ∧ Hid (∀ x ∈ P, left (kl2 x) = false → P.count x ≤ 1) ∧ Below w.heap.size w wr) (fun _ wr => wr.rangeLeft w.heap.size r)
      case atStart => exact ⟨_, _, HR0, Lib.hid (fun x hx hl => by rw [HCn.out.all x hx] at hl; cases hl), HBr.out⟩
      case round =>
        obtain ⟨left, cnt, HR, HL, hB⟩ := hrel
        have HB := Lib.hid hB
        clear HR0 HBr hB
        go_wp2_with (first | (at_next; refine wpList_next_ranges _ rfl _ rfl 250 law250 (plainElem Tryz.prog 3) (fun v : Value => v) (Value.int .i64) (fun key kl _ => ⟨key, rfl⟩) (fun v y hv => by obtain ⟨c, rfl, _⟩ := plainElem_int_inv Tryz.underlying3 hv; exact ⟨c, rfl⟩) w.heap.size r q.T.pairs.length D left cnt rfl HR.out ?_ ?_) | fail)
        · intro _ hl0
          have HE : Hid (b = true) := Lib.hid (by
            rw [← HBn.out]
            exact decide_eq_true (nodup_count fun x hx => HL.out x hx (hl0 _)))
          go_wp2
          go_ret
          exact ⟨by rw [HE.out]; rfl, HB.out⟩
        · intro x c kl y yp w1 cnt1 hkey hlk hv hat hrg1 hlt hg1 hs1 hen
          obtain ⟨p, hpm, hpw, hpk⟩ := HCn.out.has kl (Maps.has_true_of_atKey hat)
          have hc : c = (P.count p : Nat) := by
            obtain ⟨c', hc', hy', _⟩ := plainElem_int_inv Tryz.underlying3 hv
            have h1 := hat z64
            rw [hpk, HCn.out.at' p hpw] at h1
            have hy2 := congrArg Prod.fst hy'
            simp only at hy2
            rw [hy2] at h1
            simp only [DataW.lit.injEq, Lit.int.injEq, true_and] at h1
            injection hc' with _ hc'
            omega
          have HG := Lib.hid (And.intro hpm (And.intro hpw (And.intro hpk hc)))
          have HRg := Lib.hid (And.intro hrg1 hlt)
          have HB1 : Hid (Below w.heap.size w w1) := Lib.hid (HB.out.grown hg1 HB.out.size (fun kk hkk => by cases hkk; exact hrm))
          clear hpm hpw hpk hc hkey hlk hv hat hrg1 hlt hg1 hs1
          by_cases hc1 : 1 < c
          · have HE : Hid (b = false) := Lib.hid (by
              obtain ⟨h1, h2, h3, h4⟩ := HG.out
              rw [← HBn.out]
              refine decide_eq_false fun hnd => ?_
              have := (List.nodup_iff_count.1 hnd) p
              omega)
            go_wp2
            go_ret
            exact ⟨by rw [HE.out]; rfl, HB1.out⟩
          · have HNx : Hid (∀ x ∈ P, (left (kl2 x) && !(kl2 x).sameKey kl) = false → P.count x ≤ 1) := Lib.hid (fun x hx hf => by
              obtain ⟨h1, h2, h3, h4⟩ := HG.out
              cases hl : left (kl2 x) with
              | false => exact HL.out x hx hl
              | true =>
                rw [hl] at hf
                have hsk : (kl2 x).sameKey kl = true := by simpa using hf
                have he := WideAt.sameKey_eq hsk
                rw [h3] at he
                have := kl2_inj (HWf.out x hx) h2 he
                subst this
                omega)
            go_wp2
            go_roundw
            case rel => exact ⟨_, cnt1, Lib.hid HRg.out.1, HNx, HB1.out⟩
            case measure => rw [HRg.out.1.left_eq, HR.out.left_eq]; exact HRg.out.2
end Go.Proofs.YtlpkcpacfldfaaaGreat
