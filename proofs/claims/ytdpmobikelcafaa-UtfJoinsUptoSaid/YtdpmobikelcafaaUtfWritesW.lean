/-
  The walk of bastionlaw02.UtfWrites: it answers true for every list of runes of at most 2^45 and every rune, and changes nothing that was there.
-/
import Derived.Test.YtdpmobikelcafaaUtfM2
import Derived.Laws.AppendOwnNone
import Derived.Test.YtdpmobikelcafaaUtfF
import Derived.Laws.OwnMore
namespace Go.Proofs.Ytdpmobikelcafaa
open Go.RowKit
theorem runes_news {w : World} {ad : Addr} {n cap : Nat} {l : List Int} (h : RunesAt w (.slice (some ad) n cap) l) : n = l.length ∧ ∀ j u, (l.map (Value.int .i32))[j]? = some u → w.cell? (ad.add j) = some u := by
  obtain ⟨p, c, e, hc⟩ := h
  simp only [Value.slice.injEq] at e
  obtain ⟨rfl, hn, _⟩ := e
  refine ⟨hn, fun j u hj => ?_⟩
  rw [List.getElem?_map] at hj
  cases hl : l[j]? with
  | none => rw [hl] at hj; cases hj
  | some x =>
    rw [hl] at hj
    simp only [Option.map_some, Option.some.injEq] at hj
    subst hj
    obtain ⟨g, o, e, hg, hx⟩ := hc j x hl
    simp only [Option.some.injEq] at e
    subst e
    have e2 : (⟨g, o, none⟩ : Addr).add j = ⟨g, o + j, none⟩ := by
      unfold Addr.add
      by_cases hk0 : j = 0
      · simp [hk0]
      · simp [hk0]
    rw [e2]; exact hx
theorem runes_one (l : List Int) : ∀ u ∈ l.map (Value.int .i32), u.oneCell' = true := by
  intro u hu
  simp only [List.mem_map] at hu
  obtain ⟨b, _, rfl⟩ := hu
  rfl
theorem own_runes {w : World} {base : Nat} {v : Value} {l : List Int} (hr : w.ownsRow base 21 1 v l.length (l.map (Value.int .i32))) : RunesAt w v l := by
  have hr0 := hr
  rcases hr.2 with ⟨rfl, h0⟩ | ⟨g, cap, cur, rfl, hb, hgb, _⟩
  · have : l = [] := List.eq_nil_of_length_eq_zero h0
    subst this
    exact ⟨none, 0, rfl, fun k x hk => by simp at hk⟩
  · refine ⟨_, cap, rfl, fun k x hk => ⟨g, 0, rfl, (Array.getElem?_eq_some_iff.1 hgb).1, ?_⟩⟩
    have hkl : k < l.length := (List.getElem?_eq_some_iff.1 hk).1
    rw [Nat.zero_add, hr0.cellAt k (by omega), List.getElem?_map, hk]; rfl
theorem own_empty (w : World) : (w.alloc (.cells #[] 21)).ownsRow w.heap.size 21 1 (.slice (some ⟨w.heap.size, 0, none⟩) 0 0) 0 [] := by
  have := World.ownsRow_lit (base := w.heap.size) (e := 21) (size := 1) w #[] 0 (Nat.le_refl _) (by decide) rfl
  exact this
set_option maxRecDepth 20000 in
set_option maxHeartbeats 4000000 in
theorem UtfWrites_walk (v : Value) (l : List Int) (hl : 4 * l.length ≤ 140737488355328) (r0 : Int) (_hr0 : (Lit.int .i32 r0).wf = true) (w : World) (hv : RunesAt w v l) (hs : ∀ n c, v = .slice none n c → n = 0 ∧ c = 0) :
    Calls Try.prog 12 #[v, .int .i32 r0] w fun e w' => e = .returned (.bool true) ∧ Below w.heap.size w w' := by
  obtain ⟨i0, hi, hz0, hz1, hz2⟩ := info_parts infoRune
  obtain ⟨T, HT⟩ : ∃ T, Hid (U.enc l = T) := ⟨_, Lib.hid rfl⟩
  obtain ⟨N, HN⟩ : ∃ N, Hid ((U.encR r0).length = N) := ⟨_, Lib.hid rfl⟩
  have HE := own_empty w
  have hB1 : Below w.heap.size w (w.alloc (.cells #[] 21)) := (Below.refl _ w).alloc (Nat.le_refl _) _
  have hv1 := hv.below hB1

  have hll : (l.map (Value.int .i32)).length = l.length := List.length_map _
  obtain ⟨p, cap, rfl, _⟩ := id hv
  cases p with
  | none =>
    obtain ⟨e1, e2⟩ := hs _ _ rfl
    have e3 : l = [] := List.eq_nil_of_length_eq_zero e1
    subst e3 e2
    go_enter Try.func12, Try.ntmps12
    go_wp2_with (at_builtin; refine wpList_append_own_none rfl _ _ 40 rfl w.heap.size 21 i0 1 Try.underlying40 hi _ _ _ rfl HE rfl ?_)
    have hG : RunesAt (w.alloc (.cells #[] 21)) (.slice (some ⟨w.heap.size, 0, none⟩) 0 0) [] := own_runes HE
    have hV := hv1
    have hBw := hB1
    simp only [List.length_nil] at hl
    go_wp2_with fail
    refine (lives2 _).mono ?_
    rintro e w2 ⟨rfl, hb2⟩
    go_wp2_with fail
    refine (encode_runes _ [] T HT.out hl _ (hG.below hb2)).mono ?_
    rintro e w3 ⟨rfl, hb3⟩
    go_wp2_with fail
    refine (rencode_runes _ [] T HT.out hl _ ((hV.below hb2).below hb3)).mono ?_
    rintro e w4 ⟨rfl, hb4⟩
    go_wp2_with fail
    refine (width_is r0 N HN.out _).mono ?_
    rintro e w' ⟨rfl, rfl⟩
    go_wp2_with fail
    refine (rwidth_is r0 N HN.out _).mono ?_
    rintro e w5 ⟨rfl, hb5⟩
    go_wp2_with fail
    refine (same_is _ _ [] [] true (by simp) (by show _ ≤ _; omega) _ ((((hG.below hb2).below hb3).below hb4).below hb5) ((((hV.below hb2).below hb3).below hb4).below hb5)).mono ?_
    rintro e w6 ⟨rfl, hb6⟩
    go_wp2
    go_ret
    exact ⟨rfl, bel2 (bel2 (bel2 (bel2 (bel2 hBw hb2) hb3) hb4) hb5) hb6⟩
  | some ad =>
    have hnw := (runes_news hv1).2
    go_enter Try.func12, Try.ntmps12
    go_wp2_with (at_builtin; refine wpList_append_own _ rfl _ _ 40 rfl w.heap.size 21 i0 (.int .i32 0) 1 4 Try.underlying40 hi hz0 hz1 hz2 rfl (by decide) _ _ _ rfl HE ad l.length cap (l.map (Value.int .i32)) rfl (by rw [hll]; omega) hnw (runes_one _) (by unfold maxLen; omega) (by omega) (by simp) ?_; intro v' w1 hown' hgrow _)
    have hG : RunesAt w1 v' l := own_runes (by simpa using hown')
    have hBw : Below w.heap.size w w1 := hB1.grown hgrow (by simp) (fun k hk => by have e : some w.heap.size = some k := hk; simp only [Option.some.injEq] at e; omega)
    have hV := hv.below hBw
    go_wp2_with fail
    refine (lives2 _).mono ?_
    rintro e w2 ⟨rfl, hb2⟩
    go_wp2_with fail
    refine (encode_runes _ l T HT.out hl _ (hG.below hb2)).mono ?_
    rintro e w3 ⟨rfl, hb3⟩
    go_wp2_with fail
    refine (rencode_runes _ l T HT.out hl _ ((hV.below hb2).below hb3)).mono ?_
    rintro e w4 ⟨rfl, hb4⟩
    go_wp2_with fail
    refine (width_is r0 N HN.out _).mono ?_
    rintro e w' ⟨rfl, rfl⟩
    go_wp2_with fail
    refine (rwidth_is r0 N HN.out _).mono ?_
    rintro e w5 ⟨rfl, hb5⟩
    go_wp2_with fail
    refine (same_is _ _ l l true (by simp) (by show _ ≤ _; omega) _ ((((hG.below hb2).below hb3).below hb4).below hb5) ((((hV.below hb2).below hb3).below hb4).below hb5)).mono ?_
    rintro e w6 ⟨rfl, hb6⟩
    go_wp2
    go_ret
    exact ⟨rfl, bel2 (bel2 (bel2 (bel2 (bel2 hBw hb2) hb3) hb4) hb5) hb6⟩
end Go.Proofs.Ytdpmobikelcafaa
