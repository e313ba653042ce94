import Derived.Test.YtbclodbneonipaaGreatRU0M
import Derived.Test.YtbclodbneonipaaGreatCRwayM
import Derived.Deep.RegionHeld3
namespace Go.Proofs.YtbclodbneonipaaGreat
open Go.RowKit N
theorem own_span {w : World} {B : Nat} {ov : Value} {F : List Int} (h : Own w B ov F) : ∃ po co, ov = .slice po F.length co := by
  obtain ⟨p, c, e, _⟩ := h.form
  exact ⟨p, c, e⟩
set_option maxRecDepth 20000 in
set_option maxHeartbeats 8000000 in
theorem runes_is (q : TQ) (L : List Int) (hL : runesT q.T = L) (w : World) (hs : q.T.spans.length ≤ 1024 ∧ q.T.classes.length ≤ 1024 ∧ q.T.pairs.length ≤ 1024 ∧ q.T.ways.length ≤ 1024 ∧ q.T.joins.length ≤ 1024) (hm : ∀ x ∈ q.T.spans, x.map.length ≤ 8) (hN : ∀ x ∈ q.T.spans, ∀ n c, x.mv = .slice none n c → n = 0 ∧ c = 0) (hT : TabAt w q) :
    Calls Tryz.prog 82 #[q.v] w fun e w' => ∃ v', e = .returned v' ∧ Own w' w.heap.size v' L ∧ Below w.heap.size w w' := by
  obtain ⟨i0, hi, hz0, hz1, hz2⟩ := info_parts infoRune
  have HT := Lib.hid hT
  have HS := Lib.hid hs
  have HM := Lib.hid hm
  have HNN := Lib.hid hN
  have HL := Lib.hid hL
  have HGw := Lib.hid (Has.new w (.cells q.cs 28))
  have HBw := Lib.hid (bnew w (.cells q.cs 28))
  have C1 : Hid (∀ i x, q.T.spans[i]? = some x → ∃ g o, q.p0 = some ⟨g, o, none⟩ ∧ g < w.heap.size ∧ ∀ j u, (encSp x)[j]? = some u → w.cell? ⟨g, o + i * 4 + j, none⟩ = some u) := Lib.hid (by
    obtain ⟨p, cap, hpv, _, hc⟩ := HT.out.s
    simp only [TQ.v0, Value.slice.injEq] at hpv
    obtain ⟨rfl, _, rfl⟩ := hpv
    exact hc)
  have C2 : Hid (∀ i x, q.T.classes[i]? = some x → ∃ g o, q.p1 = some ⟨g, o, none⟩ ∧ g < w.heap.size ∧ ∀ j u, (encCl x)[j]? = some u → w.cell? ⟨g, o + i * 2 + j, none⟩ = some u) := Lib.hid (by
    obtain ⟨p, cap, hpv, _, hc⟩ := HT.out.c
    simp only [TQ.v1, Value.slice.injEq] at hpv
    obtain ⟨rfl, _, rfl⟩ := hpv
    exact hc)
  have C3 : Hid (∀ i x, q.T.pairs[i]? = some x → ∃ g o, q.p2 = some ⟨g, o, none⟩ ∧ g < w.heap.size ∧ ∀ j u, (encPa x)[j]? = some u → w.cell? ⟨g, o + i * 4 + j, none⟩ = some u) := Lib.hid (by
    obtain ⟨p, cap, hpv, _, hc⟩ := HT.out.p
    simp only [TQ.v2, Value.slice.injEq] at hpv
    obtain ⟨rfl, _, rfl⟩ := hpv
    exact hc)
  have C4 : Hid (∀ i x, q.T.ways[i]? = some x → ∃ g o, q.p3 = some ⟨g, o, none⟩ ∧ g < w.heap.size ∧ ∀ j u, (encSg x)[j]? = some u → w.cell? ⟨g, o + i * 3 + j, none⟩ = some u) := Lib.hid (by
    obtain ⟨p, cap, hpv, _, hc⟩ := HT.out.y
    simp only [TQ.v3, Value.slice.injEq] at hpv
    obtain ⟨rfl, _, rfl⟩ := hpv
    exact hc)
  have C5 : Hid (∀ i x, q.T.joins[i]? = some x → ∃ g o, q.p4 = some ⟨g, o, none⟩ ∧ g < w.heap.size ∧ ∀ j u, (encSg x)[j]? = some u → w.cell? ⟨g, o + i * 3 + j, none⟩ = some u) := Lib.hid (by
    obtain ⟨p, cap, hpv, _, hc⟩ := HT.out.j
    simp only [TQ.v4, Value.slice.injEq] at hpv
    obtain ⟨rfl, _, rfl⟩ := hpv
    exact hc)
  obtain ⟨hs1, hs2, hs3, hs4, hs5⟩ := hs
  clear hT hm hN hL
  unfold TQ.v
  go_enter Tryz.func82, Tryz.ntmps82
  go_wp2
  go_loopw [3, 17] (fun ovv kv wr => ∃ (k : Nat) (ov : Value), ov = ovv ∧ kv = .int .i64 k ∧ k ≤ q.T.spans.length ∧ Hid (Has wr w.heap.size (.cells q.cs 28)) ∧ Hid (Own wr w.heap.size ov ((q.T.spans.take k).flatMap spR)) ∧ Below w.heap.size w wr) (fun _ k _ => q.T.spans.length - (intOf k).toNat)
  case atStart => exact ⟨0, _, rfl, rfl, Nat.zero_le _, HGw, Lib.hid (World.ownsRow_nil _ _ _ _), HBw.out⟩
  case round =>
    obtain ⟨k, ov, rfl, rfl, hk, HG, HO, hB⟩ := hrel
    have HB := Lib.hid hB
    have hBs := hB.size
    by_cases hlt : k < q.T.spans.length
    · obtain ⟨g, of, hp, hg, hx⟩ := C1.out k q.T.spans[k] (List.getElem?_eq_getElem hlt)
      have c0 := (hB.cell (p := ⟨g, of + k * 4, none⟩) hg).trans (hx 0 _ rfl)
      have c1 := (hB.cell (p := ⟨g, of + k * 4 + 1, none⟩) hg).trans (hx 1 _ rfl)
      have c2 := (hB.cell (p := ⟨g, of + k * 4 + 2, none⟩) hg).trans (hx 2 _ rfl)
      have c3 := (hB.cell (p := ⟨g, of + k * 4 + 3, none⟩) hg).trans (hx 3 _ rfl)
      obtain ⟨ek, hek⟩ : ∃ x, x = q.T.spans[k] := ⟨_, rfl⟩
      rw [← hek] at c0 c1 c2 c3
      have hmem : ek ∈ q.T.spans := by rw [hek]; exact List.getElem_mem _
      obtain ⟨pm, cm, hmv, hmc⟩ := HT.out.m ek hmem
      have hnil := HNN.out ek hmem
      have hml := HM.out ek hmem
      rw [hmv] at c3 hnil
      have hRM0 : RunesAt w (.slice pm ek.map.length cm) ek.map := ⟨pm, cm, rfl, hmc⟩
      have HRM := Lib.hid (And.intro hRM0 (And.intro hnil hml))
      have hfm := fm_take (f := spR) (c := 10) (l := q.T.spans) k (by have := HS.out; omega) (fun x hx => by have := HM.out x hx; simp only [spR, List.length_cons]; omega)
      obtain ⟨F, hF⟩ : ∃ F, F = (q.T.spans.take k).flatMap spR := ⟨_, rfl⟩
      have HSN : Hid ((q.T.spans.take (k + 1)).flatMap spR = F ++ ([ek.lo, ek.hi] ++ ek.map)) := Lib.hid (by rw [fm_snoc hlt, ← hek, hF]; simp [spR])
      have hFl : F.length ≤ 30000 := by rw [hF]; omega
      rw [← hF] at HO
      obtain ⟨po, co, rfl⟩ := own_span HO.out
      have HEX := Lib.hid (And.intro hmem (And.intro hek (And.intro hF hmc)))
      clear hx hek hB hmem hF hfm hRM0 hnil hml hmc
      go_wp2_with fail
      have e0 := (Has.new wr (.cells #[.int .i32 ek.lo, .int .i32 ek.hi, .int .u8 ek.st, .slice pm ek.map.length cm] 96)).cell 0 rfl
      have e1 := (Has.new wr (.cells #[.int .i32 ek.lo, .int .i32 ek.hi, .int .u8 ek.st, .slice pm ek.map.length cm] 96)).cell 1 rfl
      have e3 := (Has.new wr (.cells #[.int .i32 ek.lo, .int .i32 ek.hi, .int .u8 ek.st, .slice pm ek.map.length cm] 96)).cell 3 rfl
      have HN1 := Lib.hid (Has.new wr (.cells #[.int .i32 ek.lo, .int .i32 ek.hi, .int .u8 ek.st, .slice pm ek.map.length cm] 96))
      have HG1 := Lib.hid (HG.out.alloc (.cells #[.int .i32 ek.lo, .int .i32 ek.hi, .int .u8 ek.st, .slice pm ek.map.length cm] 96))
      have HO1 : Hid (Own (wr.alloc (.cells #[.int .i32 ek.lo, .int .i32 ek.hi, .int .u8 ek.st, .slice pm ek.map.length cm] 96)) w.heap.size (.slice po F.length co) F) := Lib.hid (HO.out.alloc (.cells #[.int .i32 ek.lo, .int .i32 ek.hi, .int .u8 ek.st, .slice pm ek.map.length cm] 96))
      have HB1 := Lib.hid (HB.out.alloc hBs (.cells #[.int .i32 ek.lo, .int .i32 ek.hi, .int .u8 ek.st, .slice pm ek.map.length cm] 96))
      obtain ⟨w1, hw1⟩ : ∃ w1, w1 = wr.alloc (.cells #[.int .i32 ek.lo, .int .i32 ek.hi, .int .u8 ek.st, .slice pm ek.map.length cm] 96) := ⟨_, rfl⟩
      obtain ⟨G, hG⟩ : ∃ G, G = wr.heap.size := ⟨_, rfl⟩
      rw [← hw1] at e0 e1 e3 HN1 HG1 HO1 HB1
      rw [← hG] at e0 e1 e3 HN1
      simp only [← hw1, ← hG]
      have hB1s := HB1.out.size
      have hGl : G < w1.heap.size := HN1.out.lt
      have HGE := Lib.hid (And.intro hw1 hG)
      have HBd := Lib.hid ((HB1.out.drew).alloc hB1s (.cells #[.int .i32 ek.lo, .int .i32 ek.hi] 21))
      have HOd : Hid (Own (w1.drew.alloc (.cells #[.int .i32 ek.lo, .int .i32 ek.hi] 21)) w.heap.size (.slice po F.length co) F) := Lib.hid (HO1.out.drew.alloc (.cells #[.int .i32 ek.lo, .int .i32 ek.hi] 21))
      have HGd : Hid (Has (w1.drew.alloc (.cells #[.int .i32 ek.lo, .int .i32 ek.hi] 21)) w.heap.size (.cells q.cs 28)) := Lib.hid (Has.alloc (w := w1.drew) HG1.out _)
      have HNd : Hid (Has (w1.drew.alloc (.cells #[.int .i32 ek.lo, .int .i32 ek.hi] 21)) G (.cells #[.int .i32 ek.lo, .int .i32 ek.hi, .int .u8 ek.st, .slice pm ek.map.length cm] 96)) := Lib.hid (Has.alloc (w := w1.drew) HN1.out _)
      have HRd : Hid (RunesAt (w1.drew.alloc (.cells #[.int .i32 ek.lo, .int .i32 ek.hi] 21)) (.slice (some ⟨w1.heap.size, 0, none⟩) 2 2) [ek.lo, ek.hi]) := Lib.hid (runes_lit (l := [ek.lo, ek.hi]) (Has.new w1.drew (.cells #[.int .i32 ek.lo, .int .i32 ek.hi] 21)) 2)
      clear hw1 hG
      go_region_held3 (fun w' => w'.cell? ⟨G, 0, none⟩ = some (.int .i32 ek.lo) ∧ w'.cell? ⟨G, 1, none⟩ = some (.int .i32 ek.hi) ∧ w'.cell? ⟨G, 3, none⟩ = some (.slice pm ek.map.length cm)) (first | (exact ⟨z0, z1, z3⟩) | (exact ⟨x0, x1, x3⟩) | (exact ⟨HNd.out.cell 0 rfl, HNd.out.cell 1 rfl, HNd.out.cell 3 rfl⟩) | go_keep) (first | (refine step_append_runes (by rfl) _ _ (by rfl) w.heap.size i0 Tryz.underlying29 hi hz0 hz1 hz2 (.slice po F.length co) F.length (F.map (Value.int .i32)) (by rfl) HOd.out (.slice (some ⟨w1.heap.size, 0, none⟩) 2 2) [ek.lo, ek.hi] (by rfl) HRd.out (fun n c e => by cases e) (by unfold maxLen; simp only [List.length_cons, List.length_nil]; omega) (by simp only [List.length_cons, List.length_nil]; omega) HBd.out.size ?_; intro v3 w3 hown3 hgrow3; have HN3 := Lib.hid (has_past (v := .slice po F.length co) HNd.out hgrow3 (own_ne HOd.out HNd.out (by decide))); have HG3 := Lib.hid (has_past (v := .slice po F.length co) HGd.out hgrow3 (own_ne HOd.out HGd.out (by decide))); have HO3 : Hid (Own w3 w.heap.size v3 (F ++ [ek.lo, ek.hi])) := Lib.hid (own_app hown3); have HB3 := Lib.hid (bel_grown (v := .slice po F.length co) HBd.out HOd.out hgrow3 HBd.out.size); have x0 : w3.cell? ⟨G, 0, none⟩ = some (.int .i32 ek.lo) := HN3.out.cell 0 rfl; have x1 : w3.cell? ⟨G, 1, none⟩ = some (.int .i32 ek.hi) := HN3.out.cell 1 rfl; have x3 : w3.cell? ⟨G, 3, none⟩ = some (.slice pm ek.map.length cm) := HN3.out.cell 3 rfl; clear hown3 hgrow3) | (refine step_append_runes (by rfl) _ _ (by rfl) w.heap.size i0 Tryz.underlying29 hi hz0 hz1 hz2 v3 (F ++ [ek.lo, ek.hi]).length ((F ++ [ek.lo, ek.hi]).map (Value.int .i32)) (by rfl) HO3.out (.slice pm ek.map.length cm) ek.map (by rfl) (HRM.out.1.below HB3.out) HRM.out.2.1 (by have := HRM.out.2.2; rw [List.length_append]; unfold maxLen; simp only [List.length_cons, List.length_nil]; omega) (by have := HRM.out.2.2; rw [List.length_append]; simp only [List.length_cons, List.length_nil]; omega) HB3.out.size ?_; intro v4 w4 hown4 hgrow4; have HN4 := Lib.hid (has_past (v := v3) HN3.out hgrow4 (own_ne HO3.out HN3.out (by decide))); have HG4 := Lib.hid (has_past (v := v3) HG3.out hgrow4 (own_ne HO3.out HG3.out (by decide))); have HO4 : Hid (Own w4 w.heap.size v4 ((F ++ [ek.lo, ek.hi]) ++ ek.map)) := Lib.hid (own_app hown4); have HB4 := Lib.hid (bel_grown (v := v3) HB3.out HO3.out hgrow4 HB3.out.size); have z0 : w4.cell? ⟨G, 0, none⟩ = some (.int .i32 ek.lo) := HN4.out.cell 0 rfl; have z1 : w4.cell? ⟨G, 1, none⟩ = some (.int .i32 ek.hi) := HN4.out.cell 1 rfl; have z3 : w4.cell? ⟨G, 3, none⟩ = some (.slice pm ek.map.length cm) := HN4.out.cell 3 rfl; clear hown4 hgrow4))
      all_goals
        go_wp2
        go_roundw
        case rel =>
          rw [hp]
          repeat apply Exists.intro
          refine And.symm ⟨rfl, ?_⟩
          exact ⟨k + 1, _, rfl, by go_num, by omega, HG4, Lib.hid (by rw [HSN.out, ← List.append_assoc]; exact HO4.out), HB4.out⟩
        case measure => simp [intOf]; omega
    · obtain rfl : k = q.T.spans.length := by omega
      obtain ⟨P2, hP⟩ : ∃ P, P = q.T.spans.flatMap spR := ⟨_, rfl⟩
      have hPo : Own wr w.heap.size ov P2 := by
        have := HO.out
        rw [List.take_length] at this
        rw [hP]
        exact this
      have hfm := fm_take (f := spR) (c := 10) (l := q.T.spans) q.T.spans.length (by have := HS.out; omega) (fun x hx => by have := HM.out x hx; simp only [spR, List.length_cons]; omega)
      rw [List.take_length] at hfm
      have hPl : P2.length ≤ 10240 := by rw [hP]; omega
      obtain ⟨po, co, rfl⟩ := own_span hPo
      have HP2 := Lib.hid (And.intro hPl (And.intro hP hPo))
      have n2 : wr.cell? ⟨w.heap.size, 1, none⟩ = some (.slice q.p1 q.T.classes.length q.c1) := HG.out.cell 1 rfl
      clear hB hPl hP hPo hfm HO
      go_wp2
      obtain ⟨wo, rfl⟩ : ∃ wo : World, wo = wr := ⟨_, rfl⟩
      go_loopw [3, 35] (fun ovv kv wr => ∃ (k : Nat) (ov : Value), ov = ovv ∧ kv = .int .i64 k ∧ k ≤ q.T.classes.length ∧ Hid (Has wr w.heap.size (.cells q.cs 28)) ∧ Hid (Own wr w.heap.size ov (P2 ++ (q.T.classes.take k).flatMap clR)) ∧ Below w.heap.size w wr) (fun _ k _ => q.T.classes.length - (intOf k).toNat)
      case atStart => exact ⟨0, _, rfl, rfl, Nat.zero_le _, HG, Lib.hid (by simpa using HP2.out.2.2), HB.out⟩
      case round =>
        obtain ⟨k, ov, rfl, rfl, hk, HG, HO, hB⟩ := hrel
        have HB := Lib.hid hB
        have hBs := hB.size
        by_cases hlt : k < q.T.classes.length
        · obtain ⟨g, of, hp, hg, hx⟩ := C2.out k q.T.classes[k] (List.getElem?_eq_getElem hlt)
          have c0 := (hB.cell (p := ⟨g, of + k * 2, none⟩) hg).trans (hx 0 _ rfl)
          have c1 := (hB.cell (p := ⟨g, of + k * 2 + 1, none⟩) hg).trans (hx 1 _ rfl)
          obtain ⟨ek, hek⟩ : ∃ x, x = q.T.classes[k] := ⟨_, rfl⟩
          rw [← hek] at c0 c1
          have hmem : ek ∈ q.T.classes := by rw [hek]; exact List.getElem_mem _
          have hfm := fm_take (f := clR) (c := 1) (l := q.T.classes) k (by have := HS.out; omega) (fun x hx => by simp [clR])
          obtain ⟨F, hF⟩ : ∃ F, F = P2 ++ (q.T.classes.take k).flatMap clR := ⟨_, rfl⟩
          have HSN : Hid (P2 ++ (q.T.classes.take (k + 1)).flatMap clR = F ++ ([ek.r])) := Lib.hid (by rw [fm_snoc hlt, ← hek, hF]; simp [clR])
          have hFl : F.length ≤ 30000 := by rw [hF]; rw [List.length_append]; have := HP2.out.1; omega
          rw [← hF] at HO
          obtain ⟨po, co, rfl⟩ := own_span HO.out
          have HGa := Lib.hid ((HG.out.alloc (.cells #[.int .i32 ek.r, .int .u8 ek.c] 50)).alloc (.cells #[.int .i32 ek.r] 21))
          have HBa := Lib.hid ((hB.alloc hBs (.cells #[.int .i32 ek.r, .int .u8 ek.c] 50)).alloc (by rw [World.size_alloc]; omega) (.cells #[.int .i32 ek.r] 21))
          have HOa : Hid (Own ((wr.alloc (.cells #[.int .i32 ek.r, .int .u8 ek.c] 50)).alloc (.cells #[.int .i32 ek.r] 21)) w.heap.size (.slice po F.length co) F) := Lib.hid ((HO.out.alloc (.cells #[.int .i32 ek.r, .int .u8 ek.c] 50)).alloc (.cells #[.int .i32 ek.r] 21))
          have hRa := Has.new (wr.alloc (.cells #[.int .i32 ek.r, .int .u8 ek.c] 50)) (.cells #[.int .i32 ek.r] 21)
          rw [World.size_alloc] at hRa
          have HRa := Lib.hid (runes_lit (l := [ek.r]) hRa 1)
          have hsza : w.heap.size ≤ ((wr.alloc (.cells #[.int .i32 ek.r, .int .u8 ek.c] 50)).alloc (.cells #[.int .i32 ek.r] 21)).heap.size := by rw [World.size_alloc, World.size_alloc]; omega
          have HSZ := Lib.hid hsza
          have HEX := Lib.hid (And.intro hmem (And.intro hek hF))
          clear hx hek hB hmem hF hfm hRa hsza
          go_wp2_with (at_builtin; refine wpList_append_runes (by rfl) _ _ rfl w.heap.size i0 Tryz.underlying29 hi hz0 hz1 hz2 (.slice po F.length co) F.length (F.map (Value.int .i32)) rfl HOa.out (.slice (some ⟨wr.heap.size + 1, 0, none⟩) 1 1) [ek.r] rfl HRa.out (fun n c e => by cases e) (by unfold maxLen; simp only [List.length_cons, List.length_nil]; omega) (by simp only [List.length_cons, List.length_nil]; omega) HSZ.out ?_; intro v4 w4 hown4 hgrow4; have HG4 : Hid (Has w4 w.heap.size (.cells q.cs 28)) := Lib.hid (has_past (v := .slice po F.length co) HGa.out hgrow4 (own_ne HOa.out HGa.out (by decide))); have HO4 : Hid (Own w4 w.heap.size v4 (F ++ [ek.r])) := Lib.hid (own_app hown4); have HB4 : Hid (Below w.heap.size w w4) := Lib.hid (bel_grown (v := .slice po F.length co) HBa.out HOa.out hgrow4 HSZ.out); clear hown4 hgrow4)
          go_roundw
          case rel =>
            rw [hp]
            repeat apply Exists.intro
            refine And.symm ⟨rfl, ?_⟩
            exact ⟨k + 1, _, rfl, by go_num, by omega, HG4, Lib.hid (by rw [HSN.out]; exact HO4.out), HB4.out⟩
          case measure => simp [intOf]; omega
        · obtain rfl : k = q.T.classes.length := by omega
          obtain ⟨P3, hP⟩ : ∃ P, P = q.T.spans.flatMap spR ++ q.T.classes.flatMap clR := ⟨_, rfl⟩
          have hPo : Own wr w.heap.size ov P3 := by
            have := HO.out
            rw [List.take_length] at this
            rw [hP]
            rw [HP2.out.2.1] at this; exact this
          have hfm := fm_take (f := clR) (c := 1) (l := q.T.classes) q.T.classes.length (by have := HS.out; omega) (fun x hx => by simp [clR])
          rw [List.take_length] at hfm
          have hPl : P3.length ≤ 11264 := by rw [hP, List.length_append]; have h1 := HP2.out.1; rw [HP2.out.2.1] at h1; omega
          obtain ⟨po, co, rfl⟩ := own_span hPo
          have HP3 := Lib.hid (And.intro hPl (And.intro hP hPo))
          have n3 : wr.cell? ⟨w.heap.size, 2, none⟩ = some (.slice q.p2 q.T.pairs.length q.c2) := HG.out.cell 2 rfl
          clear hB hPl hP hPo hfm HO
          go_wp2
          obtain ⟨wo, rfl⟩ : ∃ wo : World, wo = wr := ⟨_, rfl⟩
          go_loopw [3, 48] (fun ovv kv wr => ∃ (k : Nat) (ov : Value), ov = ovv ∧ kv = .int .i64 k ∧ k ≤ q.T.pairs.length ∧ Hid (Has wr w.heap.size (.cells q.cs 28)) ∧ Hid (Own wr w.heap.size ov (P3 ++ (q.T.pairs.take k).flatMap paR)) ∧ Below w.heap.size w wr) (fun _ k _ => q.T.pairs.length - (intOf k).toNat)
          case atStart => exact ⟨0, _, rfl, rfl, Nat.zero_le _, HG, Lib.hid (by simpa using HP3.out.2.2), HB.out⟩
          case round =>
            obtain ⟨k, ov, rfl, rfl, hk, HG, HO, hB⟩ := hrel
            have HB := Lib.hid hB
            have hBs := hB.size
            by_cases hlt : k < q.T.pairs.length
            · obtain ⟨g, of, hp, hg, hx⟩ := C3.out k q.T.pairs[k] (List.getElem?_eq_getElem hlt)
              have c0 := (hB.cell (p := ⟨g, of + k * 4, none⟩) hg).trans (hx 0 _ rfl)
              have c1 := (hB.cell (p := ⟨g, of + k * 4 + 1, none⟩) hg).trans (hx 1 _ rfl)
              have c2 := (hB.cell (p := ⟨g, of + k * 4 + 2, none⟩) hg).trans (hx 2 _ rfl)
              have c3 := (hB.cell (p := ⟨g, of + k * 4 + 3, none⟩) hg).trans (hx 3 _ rfl)
              obtain ⟨ek, hek⟩ : ∃ x, x = q.T.pairs[k] := ⟨_, rfl⟩
              rw [← hek] at c0 c1 c2 c3
              have hmem : ek ∈ q.T.pairs := by rw [hek]; exact List.getElem_mem _
              have hfm := fm_take (f := paR) (c := 3) (l := q.T.pairs) k (by have := HS.out; omega) (fun x hx => by simp [paR])
              obtain ⟨F, hF⟩ : ∃ F, F = P3 ++ (q.T.pairs.take k).flatMap paR := ⟨_, rfl⟩
              have HSN : Hid (P3 ++ (q.T.pairs.take (k + 1)).flatMap paR = F ++ ([ek.r, ek.a, ek.b])) := Lib.hid (by rw [fm_snoc hlt, ← hek, hF]; simp [paR])
              have hFl : F.length ≤ 30000 := by rw [hF]; rw [List.length_append]; have := HP3.out.1; omega
              rw [← hF] at HO
              obtain ⟨po, co, rfl⟩ := own_span HO.out
              have HGa := Lib.hid ((HG.out.alloc (.cells #[.int .i32 ek.r, .int .i32 ek.a, .int .i32 ek.b, .bool ek.one] 52)).alloc (.cells #[.int .i32 ek.r, .int .i32 ek.a, .int .i32 ek.b] 21))
              have HBa := Lib.hid ((hB.alloc hBs (.cells #[.int .i32 ek.r, .int .i32 ek.a, .int .i32 ek.b, .bool ek.one] 52)).alloc (by rw [World.size_alloc]; omega) (.cells #[.int .i32 ek.r, .int .i32 ek.a, .int .i32 ek.b] 21))
              have HOa : Hid (Own ((wr.alloc (.cells #[.int .i32 ek.r, .int .i32 ek.a, .int .i32 ek.b, .bool ek.one] 52)).alloc (.cells #[.int .i32 ek.r, .int .i32 ek.a, .int .i32 ek.b] 21)) w.heap.size (.slice po F.length co) F) := Lib.hid ((HO.out.alloc (.cells #[.int .i32 ek.r, .int .i32 ek.a, .int .i32 ek.b, .bool ek.one] 52)).alloc (.cells #[.int .i32 ek.r, .int .i32 ek.a, .int .i32 ek.b] 21))
              have hRa := Has.new (wr.alloc (.cells #[.int .i32 ek.r, .int .i32 ek.a, .int .i32 ek.b, .bool ek.one] 52)) (.cells #[.int .i32 ek.r, .int .i32 ek.a, .int .i32 ek.b] 21)
              rw [World.size_alloc] at hRa
              have HRa := Lib.hid (runes_lit (l := [ek.r, ek.a, ek.b]) hRa 3)
              have hsza : w.heap.size ≤ ((wr.alloc (.cells #[.int .i32 ek.r, .int .i32 ek.a, .int .i32 ek.b, .bool ek.one] 52)).alloc (.cells #[.int .i32 ek.r, .int .i32 ek.a, .int .i32 ek.b] 21)).heap.size := by rw [World.size_alloc, World.size_alloc]; omega
              have HSZ := Lib.hid hsza
              have HEX := Lib.hid (And.intro hmem (And.intro hek hF))
              clear hx hek hB hmem hF hfm hRa hsza
              go_wp2_with (at_builtin; refine wpList_append_runes (by rfl) _ _ rfl w.heap.size i0 Tryz.underlying29 hi hz0 hz1 hz2 (.slice po F.length co) F.length (F.map (Value.int .i32)) rfl HOa.out (.slice (some ⟨wr.heap.size + 1, 0, none⟩) 3 3) [ek.r, ek.a, ek.b] rfl HRa.out (fun n c e => by cases e) (by unfold maxLen; simp only [List.length_cons, List.length_nil]; omega) (by simp only [List.length_cons, List.length_nil]; omega) HSZ.out ?_; intro v4 w4 hown4 hgrow4; have HG4 : Hid (Has w4 w.heap.size (.cells q.cs 28)) := Lib.hid (has_past (v := .slice po F.length co) HGa.out hgrow4 (own_ne HOa.out HGa.out (by decide))); have HO4 : Hid (Own w4 w.heap.size v4 (F ++ [ek.r, ek.a, ek.b])) := Lib.hid (own_app hown4); have HB4 : Hid (Below w.heap.size w w4) := Lib.hid (bel_grown (v := .slice po F.length co) HBa.out HOa.out hgrow4 HSZ.out); clear hown4 hgrow4)
              go_roundw
              case rel =>
                rw [hp]
                repeat apply Exists.intro
                refine And.symm ⟨rfl, ?_⟩
                exact ⟨k + 1, _, rfl, by go_num, by omega, HG4, Lib.hid (by rw [HSN.out]; exact HO4.out), HB4.out⟩
              case measure => simp [intOf]; omega
            · obtain rfl : k = q.T.pairs.length := by omega
              obtain ⟨P4, hP⟩ : ∃ P, P = q.T.spans.flatMap spR ++ q.T.classes.flatMap clR ++ q.T.pairs.flatMap paR := ⟨_, rfl⟩
              have hPo : Own wr w.heap.size ov P4 := by
                have := HO.out
                rw [List.take_length] at this
                rw [hP]
                rw [HP3.out.2.1] at this; exact this
              have hfm := fm_take (f := paR) (c := 3) (l := q.T.pairs) q.T.pairs.length (by have := HS.out; omega) (fun x hx => by simp [paR])
              rw [List.take_length] at hfm
              have hPl : P4.length ≤ 14336 := by rw [hP, List.length_append]; have h1 := HP3.out.1; rw [HP3.out.2.1] at h1; omega
              obtain ⟨po, co, rfl⟩ := own_span hPo
              have HP4 := Lib.hid (And.intro hPl (And.intro hP hPo))
              have n4 : wr.cell? ⟨w.heap.size, 3, none⟩ = some (.slice q.p3 q.T.ways.length q.c3) := HG.out.cell 3 rfl
              clear hB hPl hP hPo hfm HO
              go_wp2
              obtain ⟨wo, rfl⟩ : ∃ wo : World, wo = wr := ⟨_, rfl⟩
              go_loopw [3, 65] (fun ovv kv wr => ∃ (k : Nat) (ov : Value), ov = ovv ∧ kv = .int .i64 k ∧ k ≤ q.T.ways.length ∧ Hid (Has wr w.heap.size (.cells q.cs 28)) ∧ Hid (Own wr w.heap.size ov (P4 ++ (q.T.ways.take k).flatMap sgR)) ∧ Below w.heap.size w wr) (fun _ k _ => q.T.ways.length - (intOf k).toNat)
              case atStart => exact ⟨0, _, rfl, rfl, Nat.zero_le _, HG, Lib.hid (by simpa using HP4.out.2.2), HB.out⟩
              case round =>
                obtain ⟨k, ov, rfl, rfl, hk, HG, HO, hB⟩ := hrel
                have HB := Lib.hid hB
                have hBs := hB.size
                by_cases hlt : k < q.T.ways.length
                · obtain ⟨g, of, hp, hg, hx⟩ := C4.out k q.T.ways[k] (List.getElem?_eq_getElem hlt)
                  have c0 := (hB.cell (p := ⟨g, of + k * 3, none⟩) hg).trans (hx 0 _ rfl)
                  have c1 := (hB.cell (p := ⟨g, of + k * 3 + 1, none⟩) hg).trans (hx 1 _ rfl)
                  have c2 := (hB.cell (p := ⟨g, of + k * 3 + 2, none⟩) hg).trans (hx 2 _ rfl)
                  obtain ⟨ek, hek⟩ : ∃ x, x = q.T.ways[k] := ⟨_, rfl⟩
                  rw [← hek] at c0 c1 c2
                  have hmem : ek ∈ q.T.ways := by rw [hek]; exact List.getElem_mem _
                  have hfm := fm_take (f := sgR) (c := 2) (l := q.T.ways) k (by have := HS.out; omega) (fun x hx => by simp [sgR])
                  obtain ⟨F, hF⟩ : ∃ F, F = P4 ++ (q.T.ways.take k).flatMap sgR := ⟨_, rfl⟩
                  have HSN : Hid (P4 ++ (q.T.ways.take (k + 1)).flatMap sgR = F ++ ([ek.lo, ek.hi])) := Lib.hid (by rw [fm_snoc hlt, ← hek, hF]; simp [sgR])
                  have hFl : F.length ≤ 30000 := by rw [hF]; rw [List.length_append]; have := HP4.out.1; omega
                  rw [← hF] at HO
                  obtain ⟨po, co, rfl⟩ := own_span HO.out
                  have HGa := Lib.hid ((HG.out.alloc (.cells #[.int .i32 ek.lo, .int .i32 ek.hi, .int .u8 ek.k] 105)).alloc (.cells #[.int .i32 ek.lo, .int .i32 ek.hi] 21))
                  have HBa := Lib.hid ((hB.alloc hBs (.cells #[.int .i32 ek.lo, .int .i32 ek.hi, .int .u8 ek.k] 105)).alloc (by rw [World.size_alloc]; omega) (.cells #[.int .i32 ek.lo, .int .i32 ek.hi] 21))
                  have HOa : Hid (Own ((wr.alloc (.cells #[.int .i32 ek.lo, .int .i32 ek.hi, .int .u8 ek.k] 105)).alloc (.cells #[.int .i32 ek.lo, .int .i32 ek.hi] 21)) w.heap.size (.slice po F.length co) F) := Lib.hid ((HO.out.alloc (.cells #[.int .i32 ek.lo, .int .i32 ek.hi, .int .u8 ek.k] 105)).alloc (.cells #[.int .i32 ek.lo, .int .i32 ek.hi] 21))
                  have hRa := Has.new (wr.alloc (.cells #[.int .i32 ek.lo, .int .i32 ek.hi, .int .u8 ek.k] 105)) (.cells #[.int .i32 ek.lo, .int .i32 ek.hi] 21)
                  rw [World.size_alloc] at hRa
                  have HRa := Lib.hid (runes_lit (l := [ek.lo, ek.hi]) hRa 2)
                  have hsza : w.heap.size ≤ ((wr.alloc (.cells #[.int .i32 ek.lo, .int .i32 ek.hi, .int .u8 ek.k] 105)).alloc (.cells #[.int .i32 ek.lo, .int .i32 ek.hi] 21)).heap.size := by rw [World.size_alloc, World.size_alloc]; omega
                  have HSZ := Lib.hid hsza
                  have HEX := Lib.hid (And.intro hmem (And.intro hek hF))
                  clear hx hek hB hmem hF hfm hRa hsza
                  go_wp2_with (at_builtin; refine wpList_append_runes (by rfl) _ _ rfl w.heap.size i0 Tryz.underlying29 hi hz0 hz1 hz2 (.slice po F.length co) F.length (F.map (Value.int .i32)) rfl HOa.out (.slice (some ⟨wr.heap.size + 1, 0, none⟩) 2 2) [ek.lo, ek.hi] rfl HRa.out (fun n c e => by cases e) (by unfold maxLen; simp only [List.length_cons, List.length_nil]; omega) (by simp only [List.length_cons, List.length_nil]; omega) HSZ.out ?_; intro v4 w4 hown4 hgrow4; have HG4 : Hid (Has w4 w.heap.size (.cells q.cs 28)) := Lib.hid (has_past (v := .slice po F.length co) HGa.out hgrow4 (own_ne HOa.out HGa.out (by decide))); have HO4 : Hid (Own w4 w.heap.size v4 (F ++ [ek.lo, ek.hi])) := Lib.hid (own_app hown4); have HB4 : Hid (Below w.heap.size w w4) := Lib.hid (bel_grown (v := .slice po F.length co) HBa.out HOa.out hgrow4 HSZ.out); clear hown4 hgrow4)
                  go_roundw
                  case rel =>
                    rw [hp]
                    repeat apply Exists.intro
                    refine And.symm ⟨rfl, ?_⟩
                    exact ⟨k + 1, _, rfl, by go_num, by omega, HG4, Lib.hid (by rw [HSN.out]; exact HO4.out), HB4.out⟩
                  case measure => simp [intOf]; omega
                · obtain rfl : k = q.T.ways.length := by omega
                  obtain ⟨P5, hP⟩ : ∃ P, P = q.T.spans.flatMap spR ++ q.T.classes.flatMap clR ++ q.T.pairs.flatMap paR ++ q.T.ways.flatMap sgR := ⟨_, rfl⟩
                  have hPo : Own wr w.heap.size ov P5 := by
                    have := HO.out
                    rw [List.take_length] at this
                    rw [hP]
                    rw [HP4.out.2.1] at this; exact this
                  have hfm := fm_take (f := sgR) (c := 2) (l := q.T.ways) q.T.ways.length (by have := HS.out; omega) (fun x hx => by simp [sgR])
                  rw [List.take_length] at hfm
                  have hPl : P5.length ≤ 16384 := by rw [hP, List.length_append]; have h1 := HP4.out.1; rw [HP4.out.2.1] at h1; omega
                  obtain ⟨po, co, rfl⟩ := own_span hPo
                  have HP5 := Lib.hid (And.intro hPl (And.intro hP hPo))
                  have n5 : wr.cell? ⟨w.heap.size, 4, none⟩ = some (.slice q.p4 q.T.joins.length q.c4) := HG.out.cell 4 rfl
                  clear hB hPl hP hPo hfm HO
                  go_wp2
                  obtain ⟨wo, rfl⟩ : ∃ wo : World, wo = wr := ⟨_, rfl⟩
                  go_loopw [3, 80] (fun ovv kv wr => ∃ (k : Nat) (ov : Value), ov = ovv ∧ kv = .int .i64 k ∧ k ≤ q.T.joins.length ∧ Hid (Has wr w.heap.size (.cells q.cs 28)) ∧ Hid (Own wr w.heap.size ov (P5 ++ (q.T.joins.take k).flatMap sgR)) ∧ Below w.heap.size w wr) (fun _ k _ => q.T.joins.length - (intOf k).toNat)
                  case atStart => exact ⟨0, _, rfl, rfl, Nat.zero_le _, HG, Lib.hid (by simpa using HP5.out.2.2), HB.out⟩
                  case round =>
                    obtain ⟨k, ov, rfl, rfl, hk, HG, HO, hB⟩ := hrel
                    have HB := Lib.hid hB
                    have hBs := hB.size
                    by_cases hlt : k < q.T.joins.length
                    · obtain ⟨g, of, hp, hg, hx⟩ := C5.out k q.T.joins[k] (List.getElem?_eq_getElem hlt)
                      have c0 := (hB.cell (p := ⟨g, of + k * 3, none⟩) hg).trans (hx 0 _ rfl)
                      have c1 := (hB.cell (p := ⟨g, of + k * 3 + 1, none⟩) hg).trans (hx 1 _ rfl)
                      have c2 := (hB.cell (p := ⟨g, of + k * 3 + 2, none⟩) hg).trans (hx 2 _ rfl)
                      obtain ⟨ek, hek⟩ : ∃ x, x = q.T.joins[k] := ⟨_, rfl⟩
                      rw [← hek] at c0 c1 c2
                      have hmem : ek ∈ q.T.joins := by rw [hek]; exact List.getElem_mem _
                      have hfm := fm_take (f := sgR) (c := 2) (l := q.T.joins) k (by have := HS.out; omega) (fun x hx => by simp [sgR])
                      obtain ⟨F, hF⟩ : ∃ F, F = P5 ++ (q.T.joins.take k).flatMap sgR := ⟨_, rfl⟩
                      have HSN : Hid (P5 ++ (q.T.joins.take (k + 1)).flatMap sgR = F ++ ([ek.lo, ek.hi])) := Lib.hid (by rw [fm_snoc hlt, ← hek, hF]; simp [sgR])
                      have hFl : F.length ≤ 30000 := by rw [hF]; rw [List.length_append]; have := HP5.out.1; omega
                      rw [← hF] at HO
                      obtain ⟨po, co, rfl⟩ := own_span HO.out
                      have HGa := Lib.hid ((HG.out.alloc (.cells #[.int .i32 ek.lo, .int .i32 ek.hi, .int .u8 ek.k] 110)).alloc (.cells #[.int .i32 ek.lo, .int .i32 ek.hi] 21))
                      have HBa := Lib.hid ((hB.alloc hBs (.cells #[.int .i32 ek.lo, .int .i32 ek.hi, .int .u8 ek.k] 110)).alloc (by rw [World.size_alloc]; omega) (.cells #[.int .i32 ek.lo, .int .i32 ek.hi] 21))
                      have HOa : Hid (Own ((wr.alloc (.cells #[.int .i32 ek.lo, .int .i32 ek.hi, .int .u8 ek.k] 110)).alloc (.cells #[.int .i32 ek.lo, .int .i32 ek.hi] 21)) w.heap.size (.slice po F.length co) F) := Lib.hid ((HO.out.alloc (.cells #[.int .i32 ek.lo, .int .i32 ek.hi, .int .u8 ek.k] 110)).alloc (.cells #[.int .i32 ek.lo, .int .i32 ek.hi] 21))
                      have hRa := Has.new (wr.alloc (.cells #[.int .i32 ek.lo, .int .i32 ek.hi, .int .u8 ek.k] 110)) (.cells #[.int .i32 ek.lo, .int .i32 ek.hi] 21)
                      rw [World.size_alloc] at hRa
                      have HRa := Lib.hid (runes_lit (l := [ek.lo, ek.hi]) hRa 2)
                      have hsza : w.heap.size ≤ ((wr.alloc (.cells #[.int .i32 ek.lo, .int .i32 ek.hi, .int .u8 ek.k] 110)).alloc (.cells #[.int .i32 ek.lo, .int .i32 ek.hi] 21)).heap.size := by rw [World.size_alloc, World.size_alloc]; omega
                      have HSZ := Lib.hid hsza
                      have HEX := Lib.hid (And.intro hmem (And.intro hek hF))
                      clear hx hek hB hmem hF hfm hRa hsza
                      go_wp2_with (at_builtin; refine wpList_append_runes (by rfl) _ _ rfl w.heap.size i0 Tryz.underlying29 hi hz0 hz1 hz2 (.slice po F.length co) F.length (F.map (Value.int .i32)) rfl HOa.out (.slice (some ⟨wr.heap.size + 1, 0, none⟩) 2 2) [ek.lo, ek.hi] rfl HRa.out (fun n c e => by cases e) (by unfold maxLen; simp only [List.length_cons, List.length_nil]; omega) (by simp only [List.length_cons, List.length_nil]; omega) HSZ.out ?_; intro v4 w4 hown4 hgrow4; have HG4 : Hid (Has w4 w.heap.size (.cells q.cs 28)) := Lib.hid (has_past (v := .slice po F.length co) HGa.out hgrow4 (own_ne HOa.out HGa.out (by decide))); have HO4 : Hid (Own w4 w.heap.size v4 (F ++ [ek.lo, ek.hi])) := Lib.hid (own_app hown4); have HB4 : Hid (Below w.heap.size w w4) := Lib.hid (bel_grown (v := .slice po F.length co) HBa.out HOa.out hgrow4 HSZ.out); clear hown4 hgrow4)
                      go_roundw
                      case rel =>
                        rw [hp]
                        repeat apply Exists.intro
                        refine And.symm ⟨rfl, ?_⟩
                        exact ⟨k + 1, _, rfl, by go_num, by omega, HG4, Lib.hid (by rw [HSN.out]; exact HO4.out), HB4.out⟩
                      case measure => simp [intOf]; omega
                    · obtain rfl : k = q.T.joins.length := by omega
                      have hPo : Own wr w.heap.size ov L := by
                        have := HO.out
                        rw [List.take_length, HP5.out.2.1] at this
                        rw [← HL.out]
                        exact this
                      obtain ⟨po, co, rfl⟩ := own_span hPo
                      have HPO := Lib.hid hPo
                      clear hB HO hPo
                      go_wp2
                      go_ret
                      exact ⟨_, rfl, HPO.out, HB.out⟩
end Go.Proofs.YtbclodbneonipaaGreat
