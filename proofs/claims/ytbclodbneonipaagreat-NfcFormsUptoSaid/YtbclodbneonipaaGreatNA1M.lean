/-
  The document's apart (nfc).
-/
import Derived.Test.YtbclodbneonipaaGreatNS7M
import Derived.Test.YtbclodbneonipaaGreatCKM
import Derived.Test.YtbclodbneonipaaGreatQCM
import Derived.Test.YtbclodbneonipaaGreatFOM
import Derived.Test.YtbclodbneonipaaGreatW6M
namespace Go.Proofs.YtbclodbneonipaaGreat
open Go.RowKit N
theorem own_lit1 (w : World) (r : Int) : Own (w.alloc (.cells #[.int .i32 r] 21)) w.heap.size (.slice (some ⟨w.heap.size, 0, none⟩) 1 1) [r] :=
  ⟨rfl, .inr ⟨w.heap.size, 1, #[.int .i32 r], rfl, Nat.le_refl _, heap_alloc_new w _, Nat.le_refl _, by decide, rfl, rfl⟩⟩
theorem own_lit1s (w : World) (o : Obj) (r : Int) (B : Nat) (h : B ≤ w.heap.size) : Own ((w.alloc o).alloc (.cells #[.int .i32 r] 21)) B (.slice (some ⟨w.heap.size + 1, 0, none⟩) 1 1) [r] := by
  have h1 := own_lit1 (w.alloc o) r
  rw [World.size_alloc] at h1
  exact own_base (by omega) h1
/-- the document's apart: new memory with what the rune is taken apart into -/
def RapOut (q : TQ) (r : Int) (w : World) (e : Ending) (w' : World) : Prop := ∃ v, e = .returned v ∧ Own w' w.heap.size v (apt q.T.pairs r) ∧ Below w.heap.size w w'
set_option maxRecDepth 20000 in
set_option maxHeartbeats 4000000 in
theorem rapart_syl (q : TQ) (r : Int) (hF : Falls q.T.pairs) (hs : syl r = true) (w : World) : Calls Tryz.prog 25 #[q.v, .int .i32 r] w (RapOut q r w) := by
  have hr : 44032 ≤ r ∧ r ≤ 55203 := by simpa [syl] using hs
  obtain ⟨i0, hi, hz0, hz1, hz2⟩ := info_parts infoRune
  have HE := Lib.hid (apt_syl hF hs)
  have HSY := Lib.hid (fun W => rsyl_any r W)
  rw [hs] at HSY
  unfold RapOut
  obtain ⟨X, hX⟩ : ∃ X, w.alloc (.cells q.cs 28) = X := ⟨_, rfl⟩
  have HBX := Lib.hid (show Below w.heap.size w X from hX ▸ bnew w _)
  unfold TQ.cs at hX
  unfold TQ.v
  clear hs hF
  obtain ⟨r1, r2⟩ := hr
  by_cases hm : (r - 44032) % 28 = 0
  · have HS : Hid (split r = [4352 + (r - 44032) / 588, 4449 + (r - 44032) % 588 / 28]) := Lib.hid (by unfold split; rw [if_pos hm])
    have e1 : ((r - 44032) % 28 != 0) = false := by simpa using hm
    clear hm
    go_enter Tryz.func25, Tryz.ntmps25
    go_wp2_with fail
    refine (HSY.out _).mono ?_
    rintro e w1 ⟨rfl, rfl⟩
    go_wp2_with fail
    go_ret
    rw [HE.out, HS.out]
    exact ⟨_, rfl, own_base HBX.out.size (own_lit2 X _ _), HBX.out.alloc HBX.out.size _⟩
  · have HS : Hid (split r = [4352 + (r - 44032) / 588, 4449 + (r - 44032) % 588 / 28, 4519 + (r - 44032) % 28]) := Lib.hid (by unfold split; rw [if_neg hm])
    have e1 : ((r - 44032) % 28 != 0) = true := by simpa using hm
    clear hm
    have HO := Lib.hid (own_lit2 X (4352 + (r - 44032) / 588) (4449 + (r - 44032) % 588 / 28))
    have HB := Lib.hid (bnew X (.cells #[.int .i32 (4352 + (r - 44032) / 588), .int .i32 (4449 + (r - 44032) % 588 / 28)] 21))
    go_enter Tryz.func25, Tryz.ntmps25
    go_wp2_with fail
    refine (HSY.out _).mono ?_
    rintro e w1 ⟨rfl, rfl⟩
    clear hX
    go_wp2_with (at_builtin; refine wpList_append_own _ rfl _ _ 29 rfl X.heap.size 21 i0 (.int .i32 0) 1 4 Tryz.underlying29 hi hz0 hz1 hz2 rfl (by decide) (.slice (some ⟨X.heap.size, 0, none⟩) 2 2) 2 [.int .i32 (4352 + (r - 44032) / 588), .int .i32 (4449 + (r - 44032) % 588 / 28)] rfl (HO.out.alloc _) ⟨X.heap.size + 1, 0, none⟩ 1 1 [.int .i32 (4519 + (r - 44032) % 28)] rfl rfl (by have := lit32 (X.alloc (.cells #[.int .i32 (4352 + (r - 44032) / 588), .int .i32 (4449 + (r - 44032) % 588 / 28)] 21)) (4519 + (r - 44032) % 28); simpa using this) (one32 _) (by decide) (by decide) (by simp; omega) ?_; intro v3 w3 hown3 hgrow3 _; have HB3 : Hid (Below X.heap.size X w3) := Lib.hid (bel_own (v := .slice (some ⟨X.heap.size, 0, none⟩) 2 2) (HB.out.alloc (by simp) (.cells #[.int .i32 (4519 + (r - 44032) % 28)] 21)) (HO.out.alloc (.cells #[.int .i32 (4519 + (r - 44032) % 28)] 21)) hgrow3 (by simp; omega)); obtain ⟨g3, cap3, rfl⟩ := ownsRow_succ hown3; have HO3 := Lib.hid hown3; clear hown3 hgrow3)
    go_ret
    rw [HE.out, HS.out]
    exact ⟨_, rfl, own_base HBX.out.size HO3.out, HBX.out.trans (HB3.out.mono HBX.out.size)⟩
set_option maxRecDepth 20000 in
set_option maxHeartbeats 16000000 in
theorem rapart_is (q : TQ) (hF : Falls q.T.pairs) (hf : Fit q.T) (hP : PairWf q.T) : ∀ (n : Nat) (r : Int), r.toNat < n → (Lit.int .i32 r).wf = true → (apt q.T.pairs r).length ≤ 4096 → ∀ w, TabAt w q → Calls Tryz.prog 25 #[q.v, .int .i32 r] w (RapOut q r w) := by
  intro n
  induction n with
  | zero => intro r h; omega
  | succ n ih =>
    intro r hn hr hlen w hT
    cases hs : syl r with
    | true => exact rapart_syl q r hF hs w
    | false =>
    have HSY := Lib.hid (fun W => rsyl_any r W)
    rw [hs] at HSY
    obtain ⟨i0, hi, hz0, hz1, hz2⟩ := info_parts infoRune
    obtain ⟨X, hX⟩ : ∃ X, w.alloc (.cells q.cs 28) = X := ⟨_, rfl⟩
    have HBX := Lib.hid (show Below w.heap.size w X from hX ▸ bnew w _)
    have HX := Lib.hid (show Has X w.heap.size (.cells q.cs 28) from hX ▸ Has.new w _)
    have HTX := Lib.hid (hT.below HBX.out)
    obtain ⟨o, ho⟩ : ∃ o, prL q.T.pairs r = o := ⟨_, rfl⟩
    have HPR := Lib.hid (rpair_is q r o ho X HTX.out hf)
    unfold RapOut
    have m0 : X.cell? ⟨w.heap.size, 0, none⟩ = some (.slice q.p0 q.T.spans.length q.c0) := HX.out.cell 0 rfl
    have m1 : X.cell? ⟨w.heap.size, 1, none⟩ = some (.slice q.p1 q.T.classes.length q.c1) := HX.out.cell 1 rfl
    have m2 : X.cell? ⟨w.heap.size, 2, none⟩ = some (.slice q.p2 q.T.pairs.length q.c2) := HX.out.cell 2 rfl
    have m3 : X.cell? ⟨w.heap.size, 3, none⟩ = some (.slice q.p3 q.T.ways.length q.c3) := HX.out.cell 3 rfl
    have m4 : X.cell? ⟨w.heap.size, 4, none⟩ = some (.slice q.p4 q.T.joins.length q.c4) := HX.out.cell 4 rfl
    unfold TQ.cs at hX
    unfold TQ.v at HPR ⊢
    cases o with
    | none =>
      have HE := Lib.hid (apt_none hF hs ho)
      clear hT hn hr hlen hs ho ih hF hf hP
      simp only [Option.getD_none, Option.isSome_none] at HPR
      unfold pa0 at HPR
      go_enter Tryz.func25, Tryz.ntmps25
      go_wp2_with fail
      refine (HSY.out _).mono ?_
      rintro e w1 ⟨rfl, rfl⟩
      clear hX
      go_wp2_with fail
      refine HPR.out.mono ?_
      rintro e w2 ⟨rfl, hb2⟩
      have HB2 := Lib.hid hb2
      clear hb2 m0 m1 m2 m3 m4
      go_wp2_with fail
      go_ret
      rw [HE.out]
      exact ⟨_, rfl, own_lit1s w2 _ r _ (Nat.le_trans HBX.out.size HB2.out.size), (bel2 HBX.out (HB2.out.alloc HB2.out.size _)).alloc (Nat.le_trans HBX.out.size (Nat.le_trans HB2.out.size (bnew w2 _).size)) _⟩
    | some x =>
      obtain ⟨hmem, hxr⟩ := prL_some ho
      obtain ⟨f1, f2, f3, f4⟩ := hF x hmem
      obtain ⟨_, wa, wb⟩ := hP x hmem
      simp only [Option.getD_some, Option.isSome_some] at HPR
      obtain ⟨xo, hxo⟩ : ∃ xo, x.one = xo := ⟨_, rfl⟩
      rw [hxo] at HPR
      by_cases hb : x.b = 0
      · have HE := Lib.hid (apt_one hF hs ho hb)
        have hla : (apt q.T.pairs x.a).length ≤ 4096 := by rw [← HE.out]; exact hlen
        have HA := Lib.hid (fun (W : World) (h : TabAt W q) => ih x.a (by omega) wa hla W h)
        unfold RapOut TQ.v at HA
        have b1 : (x.b != 0) = false := by simpa using hb
        have HZ := Lib.hid hb
        clear hT hn hr hlen hs ho ih hF hf hP hb hla wa wb f1 f2 f3 f4 hmem hxr hxo
        go_enter Tryz.func25, Tryz.ntmps25
        go_wp2_with fail
        refine (HSY.out _).mono ?_
        rintro e w1 ⟨rfl, rfl⟩
        clear hX
        go_wp2_with fail
        refine HPR.out.mono ?_
        rintro e w2 ⟨rfl, hb2⟩
        have HB2 := Lib.hid (HBX.out.trans (hb2.mono HBX.out.size))
        have HX2 := Lib.hid (HX.out.to hb2)
        have HT2 := Lib.hid (HTX.out.below hb2)
        clear hb2 m0 m1 m2 m3 m4
        have m0 : w2.cell? ⟨w.heap.size, 0, none⟩ = some (.slice q.p0 q.T.spans.length q.c0) := HX2.out.cell 0 rfl
        have m1 : w2.cell? ⟨w.heap.size, 1, none⟩ = some (.slice q.p1 q.T.classes.length q.c1) := HX2.out.cell 1 rfl
        have m2 : w2.cell? ⟨w.heap.size, 2, none⟩ = some (.slice q.p2 q.T.pairs.length q.c2) := HX2.out.cell 2 rfl
        have m3 : w2.cell? ⟨w.heap.size, 3, none⟩ = some (.slice q.p3 q.T.ways.length q.c3) := HX2.out.cell 3 rfl
        have m4 : w2.cell? ⟨w.heap.size, 4, none⟩ = some (.slice q.p4 q.T.joins.length q.c4) := HX2.out.cell 4 rfl
        have hg2 := HX2.out.lt
        obtain ⟨Y, hY⟩ : ∃ Y, w2.alloc (.cells #[.int .i32 x.r, .int .i32 x.a, .int .i32 x.b, .bool xo] 52) = Y := ⟨_, rfl⟩
        have HBY := Lib.hid (show Below w2.heap.size w2 Y from hY ▸ bnew w2 _)
        have HY := Lib.hid (show Has Y w2.heap.size (.cells #[.int .i32 x.r, .int .i32 x.a, .int .i32 x.b, .bool xo] 52) from hY ▸ Has.new w2 _)
        have HXY := Lib.hid (HX2.out.to HBY.out)
        have HTY := Lib.hid (HT2.out.below HBY.out)
        have HB3 := Lib.hid (HB2.out.trans (HBY.out.mono HB2.out.size))
        clear m0 m1 m2 m3 m4
        have m0 : Y.cell? ⟨w.heap.size, 0, none⟩ = some (.slice q.p0 q.T.spans.length q.c0) := HXY.out.cell 0 rfl
        have m1 : Y.cell? ⟨w.heap.size, 1, none⟩ = some (.slice q.p1 q.T.classes.length q.c1) := HXY.out.cell 1 rfl
        have m2 : Y.cell? ⟨w.heap.size, 2, none⟩ = some (.slice q.p2 q.T.pairs.length q.c2) := HXY.out.cell 2 rfl
        have m3 : Y.cell? ⟨w.heap.size, 3, none⟩ = some (.slice q.p3 q.T.ways.length q.c3) := HXY.out.cell 3 rfl
        have m4 : Y.cell? ⟨w.heap.size, 4, none⟩ = some (.slice q.p4 q.T.joins.length q.c4) := HXY.out.cell 4 rfl
        have y1 : Y.cell? ⟨w2.heap.size, 1, none⟩ = some (.int .i32 x.a) := HY.out.cell 1 rfl
        have y2 : Y.cell? ⟨w2.heap.size, 2, none⟩ = some (.int .i32 x.b) := HY.out.cell 2 rfl
        go_wp2_with fail
        refine (HA.out Y HTY.out).mono ?_
        rintro e w4 ⟨v4, rfl, ho4, hb4⟩
        obtain ⟨p4, c4, rfl, _⟩ := id ho4.form
        have HO4 := Lib.hid ho4
        have HB4 := Lib.hid (HB3.out.trans (hb4.mono HB3.out.size))
        have HY4 := Lib.hid (HY.out.to hb4)
        have HX4 := Lib.hid (HXY.out.to hb4)
        have HT4 := Lib.hid (HTY.out.below hb4)
        clear hb4 ho4 m0 m1 m2 m3 m4 y1 y2 hY
        have y2 : w4.cell? ⟨w2.heap.size, 2, none⟩ = some (.int .i32 x.b) := HY4.out.cell 2 rfl
        go_wp2_with fail
        go_ret
        rw [HE.out]
        exact ⟨_, rfl, own_base HB3.out.size HO4.out, HB4.out⟩
      · have HE := Lib.hid (apt_two hF hs ho hb)
        have hlab : (apt q.T.pairs x.a).length + (apt q.T.pairs x.b).length ≤ 4096 := by rw [← List.length_append, ← HE.out]; exact hlen
        obtain ⟨A, hA⟩ : ∃ A, apt q.T.pairs x.a = A := ⟨_, rfl⟩
        obtain ⟨B, hB⟩ : ∃ B, apt q.T.pairs x.b = B := ⟨_, rfl⟩
        rw [hA, hB] at hlab HE
        have HA := Lib.hid (fun (W : World) (h : TabAt W q) => ih x.a (by omega) wa (by rw [hA]; omega) W h)
        have HBB := Lib.hid (fun (W : World) (h : TabAt W q) => ih x.b (by omega) wb (by rw [hB]; omega) W h)
        unfold RapOut TQ.v at HA HBB
        rw [hA] at HA
        rw [hB] at HBB
        have b1 : (x.b != 0) = true := by simpa using hb
        have HZ := Lib.hid hb
        clear hT hn hr hlen hs ho ih hF hf hP hb wa wb f1 f2 f3 f4 hmem hxr hxo hA hB
        go_enter Tryz.func25, Tryz.ntmps25
        go_wp2_with fail
        refine (HSY.out _).mono ?_
        rintro e w1 ⟨rfl, rfl⟩
        clear hX
        go_wp2_with fail
        refine HPR.out.mono ?_
        rintro e w2 ⟨rfl, hb2⟩
        have HB2 := Lib.hid (HBX.out.trans (hb2.mono HBX.out.size))
        have HX2 := Lib.hid (HX.out.to hb2)
        have HT2 := Lib.hid (HTX.out.below hb2)
        clear hb2 m0 m1 m2 m3 m4
        have m0 : w2.cell? ⟨w.heap.size, 0, none⟩ = some (.slice q.p0 q.T.spans.length q.c0) := HX2.out.cell 0 rfl
        have m1 : w2.cell? ⟨w.heap.size, 1, none⟩ = some (.slice q.p1 q.T.classes.length q.c1) := HX2.out.cell 1 rfl
        have m2 : w2.cell? ⟨w.heap.size, 2, none⟩ = some (.slice q.p2 q.T.pairs.length q.c2) := HX2.out.cell 2 rfl
        have m3 : w2.cell? ⟨w.heap.size, 3, none⟩ = some (.slice q.p3 q.T.ways.length q.c3) := HX2.out.cell 3 rfl
        have m4 : w2.cell? ⟨w.heap.size, 4, none⟩ = some (.slice q.p4 q.T.joins.length q.c4) := HX2.out.cell 4 rfl
        have hg2 := HX2.out.lt
        obtain ⟨Y, hY⟩ : ∃ Y, w2.alloc (.cells #[.int .i32 x.r, .int .i32 x.a, .int .i32 x.b, .bool xo] 52) = Y := ⟨_, rfl⟩
        have HBY := Lib.hid (show Below w2.heap.size w2 Y from hY ▸ bnew w2 _)
        have HY := Lib.hid (show Has Y w2.heap.size (.cells #[.int .i32 x.r, .int .i32 x.a, .int .i32 x.b, .bool xo] 52) from hY ▸ Has.new w2 _)
        have HXY := Lib.hid (HX2.out.to HBY.out)
        have HTY := Lib.hid (HT2.out.below HBY.out)
        have HB3 := Lib.hid (HB2.out.trans (HBY.out.mono HB2.out.size))
        clear m0 m1 m2 m3 m4
        have m0 : Y.cell? ⟨w.heap.size, 0, none⟩ = some (.slice q.p0 q.T.spans.length q.c0) := HXY.out.cell 0 rfl
        have m1 : Y.cell? ⟨w.heap.size, 1, none⟩ = some (.slice q.p1 q.T.classes.length q.c1) := HXY.out.cell 1 rfl
        have m2 : Y.cell? ⟨w.heap.size, 2, none⟩ = some (.slice q.p2 q.T.pairs.length q.c2) := HXY.out.cell 2 rfl
        have m3 : Y.cell? ⟨w.heap.size, 3, none⟩ = some (.slice q.p3 q.T.ways.length q.c3) := HXY.out.cell 3 rfl
        have m4 : Y.cell? ⟨w.heap.size, 4, none⟩ = some (.slice q.p4 q.T.joins.length q.c4) := HXY.out.cell 4 rfl
        have y1 : Y.cell? ⟨w2.heap.size, 1, none⟩ = some (.int .i32 x.a) := HY.out.cell 1 rfl
        have y2 : Y.cell? ⟨w2.heap.size, 2, none⟩ = some (.int .i32 x.b) := HY.out.cell 2 rfl
        go_wp2_with fail
        refine (HA.out Y HTY.out).mono ?_
        rintro e w4 ⟨v4, rfl, ho4, hb4⟩
        obtain ⟨p4, c4, rfl, _⟩ := id ho4.form
        have HO4 := Lib.hid ho4
        have HB4 := Lib.hid (HB3.out.trans (hb4.mono HB3.out.size))
        have HY4 := Lib.hid (HY.out.to hb4)
        have HX4 := Lib.hid (HXY.out.to hb4)
        have HT4 := Lib.hid (HTY.out.below hb4)
        clear hb4 ho4 m0 m1 m2 m3 m4 y1 y2 hY
        have y2 : w4.cell? ⟨w2.heap.size, 2, none⟩ = some (.int .i32 x.b) := HY4.out.cell 2 rfl
        have m0 : w4.cell? ⟨w.heap.size, 0, none⟩ = some (.slice q.p0 q.T.spans.length q.c0) := HX4.out.cell 0 rfl
        have m1 : w4.cell? ⟨w.heap.size, 1, none⟩ = some (.slice q.p1 q.T.classes.length q.c1) := HX4.out.cell 1 rfl
        have m2 : w4.cell? ⟨w.heap.size, 2, none⟩ = some (.slice q.p2 q.T.pairs.length q.c2) := HX4.out.cell 2 rfl
        have m3 : w4.cell? ⟨w.heap.size, 3, none⟩ = some (.slice q.p3 q.T.ways.length q.c3) := HX4.out.cell 3 rfl
        have m4 : w4.cell? ⟨w.heap.size, 4, none⟩ = some (.slice q.p4 q.T.joins.length q.c4) := HX4.out.cell 4 rfl
        go_wp2_with fail
        refine (HBB.out w4 HT4.out).mono ?_
        rintro e w5 ⟨v5, rfl, ho5, hb5⟩
        obtain ⟨p5, c5, rfl, _⟩ := id ho5.form
        have HM5 := Lib.hid ho5.at
        have HN5 := Lib.hid (own_nilc ho5)
        have HO5 := Lib.hid (HO4.out.to hb5)
        have HB5 := Lib.hid (HB4.out.trans (hb5.mono HB4.out.size))
        have HW5 := Lib.hid (own_base HB3.out.size HO5.out)
        have hs0 := HB5.out.size
        clear hb5 ho5 m0 m1 m2 m3 m4 y2
        go_wp2_with (at_builtin; refine wpList_append_runes (by rfl) _ _ rfl w.heap.size i0 Tryz.underlying29 hi hz0 hz1 hz2 (.slice p4 A.length c4) A.length (A.map (Value.int .i32)) rfl HW5.out (.slice p5 B.length c5) B rfl HM5.out HN5.out (by unfold maxLen; omega) (by omega) hs0 ?_; intro v6 w6 hown6 hgrow6; have HO6 : Hid (Own w6 w.heap.size v6 (A ++ B)) := Lib.hid (own_app hown6); have HB6 : Hid (Below w.heap.size w w6) := Lib.hid (bel_grown (v := .slice p4 A.length c4) HB5.out HW5.out hgrow6 hs0); clear hown6 hgrow6; obtain ⟨p6, c6, rfl, _⟩ := HO6.out.form)
        go_ret
        have e9 : Value.slice p6 (A ++ B).length c6 = .slice p6 (A.length + B.length) c6 := by simp
        have HO7 := HO6.out
        rw [e9] at HO7
        rw [HE.out]
        exact ⟨_, rfl, HO7, HB6.out⟩
end Go.Proofs.YtbclodbneonipaaGreat
