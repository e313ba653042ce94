import Derived.Test.YtbclodbneonipaaGreatNA1M
/-
  The document's many (nfc).
-/
namespace Go.Proofs.YtbclodbneonipaaGreat
open Go.RowKit N
theorem many_neg (l : List Pa) (n : Nat) (r left : Int) (h : left < 0) : manyR l n r left = 1 := by
  cases n with
  | zero => rfl
  | succ n => rw [manyR, if_pos h]
theorem many_le (l : List Pa) : ∀ (n : Nat) (r left : Int), 0 ≤ left → manyR l n r left ≤ left + 3 + n
  | 0, r, left, h => by rw [manyR]; omega
  | n + 1, r, left, h => by
    rw [manyR, if_neg (by omega)]
    split
    · have := (split_len r).2; omega
    · split
      · omega
      · rename_i x _
        have h1 := many_le l n x.a left h
        split
        · omega
        · by_cases hn : left - manyR l n x.a left < 0
          · rw [many_neg l n x.b _ hn]; omega
          · have h2 := many_le l n x.b (left - manyR l n x.a left) (by omega); omega
set_option maxRecDepth 20000 in
set_option maxHeartbeats 16000000 in
/-- the document's many -/
theorem rmany_is (q : TQ) (hF : Falls q.T.pairs) (hf : Fit q.T) : ∀ (n : Nat) (r left : Int), r.toNat < n → n ≤ 4294967296 → left ≤ 4096 → -8589934592 ≤ left → ∀ w, TabAt w q → Calls Tryz.prog 24 #[q.v, .int .i32 r, .int .i64 left] w fun e w' => e = .returned (.int .i64 (manyR q.T.pairs n r left)) ∧ Below w.heap.size w w' := by
  intro n
  induction n with
  | zero => intro r left h; omega
  | succ n ih =>
    intro r left hn hn2 hle hge w hT
    obtain ⟨X, hX⟩ : ∃ X, w.alloc (.cells q.cs 28) = X := ⟨_, rfl⟩
    have HBX := Lib.hid (show Below w.heap.size w X from hX ▸ bnew w _)
    have HX := Lib.hid (show Has X w.heap.size (.cells q.cs 28) from hX ▸ Has.new w _)
    have HTX := Lib.hid (hT.below HBX.out)
    by_cases hl : left < 0
    · have d0 : decide (left < 0) = true := decide_eq_true hl
      have HZ := Lib.hid (many_neg q.T.pairs (n + 1) r left hl)
      unfold TQ.cs at hX
      unfold TQ.v
      clear hT hn hn2 hle hge ih hF hf
      go_enter Tryz.func24, Tryz.ntmps24
      go_wp2_with fail
      go_ret
      exact ⟨by rw [HZ.out]; rfl, HBX.out⟩
    have d0 : decide (left < 0) = false := decide_eq_false hl
    cases hs : syl r with
    | true =>
      have HSY := Lib.hid (fun W => rsyl_any r W)
      rw [hs] at HSY
      have HZ := Lib.hid (show manyR q.T.pairs (n + 1) r left = ((apt q.T.pairs r).length : Nat) from by rw [manyR, if_neg hl, if_pos hs, apt_syl hF hs])
      have HA := Lib.hid (fun W => rapart_syl q r hF hs W)
      unfold RapOut TQ.v at HA
      have m0 : X.cell? ⟨w.heap.size, 0, none⟩ = some (.slice q.p0 q.T.spans.length q.c0) := HX.out.cell 0 rfl
      have m1 : X.cell? ⟨w.heap.size, 1, none⟩ = some (.slice q.p1 q.T.classes.length q.c1) := HX.out.cell 1 rfl
      have m2 : X.cell? ⟨w.heap.size, 2, none⟩ = some (.slice q.p2 q.T.pairs.length q.c2) := HX.out.cell 2 rfl
      have m3 : X.cell? ⟨w.heap.size, 3, none⟩ = some (.slice q.p3 q.T.ways.length q.c3) := HX.out.cell 3 rfl
      have m4 : X.cell? ⟨w.heap.size, 4, none⟩ = some (.slice q.p4 q.T.joins.length q.c4) := HX.out.cell 4 rfl
      unfold TQ.cs at hX
      unfold TQ.v
      clear hT hn hn2 hle hge ih hF hf hs
      go_enter Tryz.func24, Tryz.ntmps24
      go_wp2_with fail
      refine (HSY.out _).mono ?_
      rintro e w1 ⟨rfl, rfl⟩
      clear hX
      go_wp2_with fail
      refine (HA.out _).mono ?_
      rintro e w2 ⟨v2, rfl, ho2, hb2⟩
      obtain ⟨p2, c2, rfl, _⟩ := id ho2.form
      have HB2 := Lib.hid (HBX.out.trans (hb2.mono HBX.out.size))
      clear hb2 ho2 m0 m1 m2 m3 m4
      go_wp2_with fail
      go_ret
      exact ⟨by rw [HZ.out]; rfl, HB2.out⟩
    | false =>
    have HSY := Lib.hid (fun W => rsyl_any r W)
    rw [hs] at HSY
    obtain ⟨o, ho⟩ : ∃ o, prL q.T.pairs r = o := ⟨_, rfl⟩
    have HPR := Lib.hid (rpair_is q r o ho X HTX.out hf)
    have m0 : X.cell? ⟨w.heap.size, 0, none⟩ = some (.slice q.p0 q.T.spans.length q.c0) := HX.out.cell 0 rfl
    have m1 : X.cell? ⟨w.heap.size, 1, none⟩ = some (.slice q.p1 q.T.classes.length q.c1) := HX.out.cell 1 rfl
    have m2 : X.cell? ⟨w.heap.size, 2, none⟩ = some (.slice q.p2 q.T.pairs.length q.c2) := HX.out.cell 2 rfl
    have m3 : X.cell? ⟨w.heap.size, 3, none⟩ = some (.slice q.p3 q.T.ways.length q.c3) := HX.out.cell 3 rfl
    have m4 : X.cell? ⟨w.heap.size, 4, none⟩ = some (.slice q.p4 q.T.joins.length q.c4) := HX.out.cell 4 rfl
    unfold TQ.cs at hX
    unfold TQ.v at HPR ⊢
    cases o with
    | none =>
      have HZ := Lib.hid (show manyR q.T.pairs (n + 1) r left = 1 from by rw [manyR, if_neg hl, if_neg (by rw [hs]; simp), ho])
      clear hT hn hn2 hle hge hs ho ih hF hf
      simp only [Option.getD_none, Option.isSome_none] at HPR
      unfold pa0 at HPR
      go_enter Tryz.func24, Tryz.ntmps24
      go_wp2_with fail
      refine (HSY.out _).mono ?_
      rintro e w1 ⟨rfl, rfl⟩
      clear hX
      go_wp2_with fail
      refine HPR.out.mono ?_
      rintro e w2 ⟨rfl, hb2⟩
      have HB2 := Lib.hid (HBX.out.trans (hb2.mono HBX.out.size))
      clear hb2 m0 m1 m2 m3 m4
      go_wp2_with fail
      go_ret
      exact ⟨by rw [HZ.out]; rfl, HB2.out.alloc HB2.out.size _⟩
    | some x =>
      obtain ⟨hmem, hxr⟩ := prL_some ho
      obtain ⟨f1, f2, f3, f4⟩ := hF x hmem
      simp only [Option.getD_some, Option.isSome_some] at HPR
      obtain ⟨xo, hxo⟩ : ∃ xo, x.one = xo := ⟨_, rfl⟩
      rw [hxo] at HPR
      obtain ⟨ma, hma⟩ : ∃ ma, manyR q.T.pairs n x.a left = ma := ⟨_, rfl⟩
      have hma1 : 1 ≤ ma := by rw [← hma]; exact many_pos _ _ _ _
      have hma2 : ma ≤ left + 3 + n := by rw [← hma]; exact many_le _ _ _ _ (by omega)
      have HA := Lib.hid (fun (W : World) (h : TabAt W q) => ih x.a left (by omega) (by omega) hle hge W h)
      unfold TQ.v at HA
      rw [hma] at HA
      by_cases hb : x.b = 0
      · have HZ := Lib.hid (show manyR q.T.pairs (n + 1) r left = ma from by
          rw [manyR, if_neg hl, if_neg (by rw [hs]; simp), ho]
          simp only
          rw [if_pos hb, hma])
        have b1 : (x.b != 0) = false := by simpa using hb
        have HZb := Lib.hid hb
        clear hT hn hn2 hle hge hs ho ih hF hf hb hma hma1 hma2 f1 f2 f3 f4 hmem hxr hxo
        go_enter Tryz.func24, Tryz.ntmps24
        go_wp2_with fail
        refine (HSY.out _).mono ?_
        rintro e w1 ⟨rfl, rfl⟩
        clear hX
        go_wp2_with fail
        refine HPR.out.mono ?_
        rintro e w2 ⟨rfl, hb2⟩
        have HB2 := Lib.hid (HBX.out.trans (hb2.mono HBX.out.size))
        have HX2 := Lib.hid (HX.out.to hb2)
        have HT2 := Lib.hid (HTX.out.below hb2)
        clear hb2 m0 m1 m2 m3 m4
        have m0 : w2.cell? ⟨w.heap.size, 0, none⟩ = some (.slice q.p0 q.T.spans.length q.c0) := HX2.out.cell 0 rfl
        have m1 : w2.cell? ⟨w.heap.size, 1, none⟩ = some (.slice q.p1 q.T.classes.length q.c1) := HX2.out.cell 1 rfl
        have m2 : w2.cell? ⟨w.heap.size, 2, none⟩ = some (.slice q.p2 q.T.pairs.length q.c2) := HX2.out.cell 2 rfl
        have m3 : w2.cell? ⟨w.heap.size, 3, none⟩ = some (.slice q.p3 q.T.ways.length q.c3) := HX2.out.cell 3 rfl
        have m4 : w2.cell? ⟨w.heap.size, 4, none⟩ = some (.slice q.p4 q.T.joins.length q.c4) := HX2.out.cell 4 rfl
        obtain ⟨Y, hY⟩ : ∃ Y, w2.alloc (.cells #[.int .i32 x.r, .int .i32 x.a, .int .i32 x.b, .bool xo] 52) = Y := ⟨_, rfl⟩
        have HBY := Lib.hid (show Below w2.heap.size w2 Y from hY ▸ bnew w2 _)
        have HY := Lib.hid (show Has Y w2.heap.size (.cells #[.int .i32 x.r, .int .i32 x.a, .int .i32 x.b, .bool xo] 52) from hY ▸ Has.new w2 _)
        have HXY := Lib.hid (HX2.out.to HBY.out)
        have HTY := Lib.hid (HT2.out.below HBY.out)
        have HB3 := Lib.hid (HB2.out.trans (HBY.out.mono HB2.out.size))
        clear m0 m1 m2 m3 m4
        have m0 : Y.cell? ⟨w.heap.size, 0, none⟩ = some (.slice q.p0 q.T.spans.length q.c0) := HXY.out.cell 0 rfl
        have m1 : Y.cell? ⟨w.heap.size, 1, none⟩ = some (.slice q.p1 q.T.classes.length q.c1) := HXY.out.cell 1 rfl
        have m2 : Y.cell? ⟨w.heap.size, 2, none⟩ = some (.slice q.p2 q.T.pairs.length q.c2) := HXY.out.cell 2 rfl
        have m3 : Y.cell? ⟨w.heap.size, 3, none⟩ = some (.slice q.p3 q.T.ways.length q.c3) := HXY.out.cell 3 rfl
        have m4 : Y.cell? ⟨w.heap.size, 4, none⟩ = some (.slice q.p4 q.T.joins.length q.c4) := HXY.out.cell 4 rfl
        have y1 : Y.cell? ⟨w2.heap.size, 1, none⟩ = some (.int .i32 x.a) := HY.out.cell 1 rfl
        go_wp2_with fail
        refine (HA.out Y HTY.out).mono ?_
        rintro e w4 ⟨rfl, hb4⟩
        have HB4 := Lib.hid (HB3.out.trans (hb4.mono HB3.out.size))
        have HY4 := Lib.hid (HY.out.to hb4)
        have HX4 := Lib.hid (HXY.out.to hb4)
        have HT4 := Lib.hid (HTY.out.below hb4)
        clear hb4 m0 m1 m2 m3 m4 y1 hY
        have y2 : w4.cell? ⟨w2.heap.size, 2, none⟩ = some (.int .i32 x.b) := HY4.out.cell 2 rfl
        go_wp2_with fail
        go_ret
        exact ⟨by rw [HZ.out]; rfl, HB4.out⟩
      · obtain ⟨mb, hmb⟩ : ∃ mb, manyR q.T.pairs n x.b (left - ma) = mb := ⟨_, rfl⟩
        have hmb1 : 1 ≤ mb := by rw [← hmb]; exact many_pos _ _ _ _
        have hmb2 : mb ≤ 8589934592 := by
          by_cases hn9 : left - ma < 0
          · rw [← hmb, many_neg _ _ _ _ hn9]; omega
          · have := many_le q.T.pairs n x.b (left - ma) (by omega); rw [← hmb]; omega
        have HZ := Lib.hid (show manyR q.T.pairs (n + 1) r left = ma + mb from by
          rw [manyR, if_neg hl, if_neg (by rw [hs]; simp), ho]
          simp only
          rw [if_neg hb, hma, hmb])
        have HBB := Lib.hid (fun (W : World) (h : TabAt W q) => ih x.b (left - ma) (by omega) (by omega) (by omega) (by omega) W h)
        unfold TQ.v at HBB
        rw [hmb] at HBB
        have wk : IntKind.i64.wrap (left - ma) = left - ma := IntWalk.i64_in _ (by omega)
        have ws : IntKind.i64.wrap (ma + mb) = ma + mb := IntWalk.i64_in _ (by omega)
        have b1 : (x.b != 0) = true := by simpa using hb
        have HZb := Lib.hid hb
        clear hT hn hn2 hle hge hs ho ih hF hf hb hma hma1 hma2 hmb hmb1 hmb2 f1 f2 f3 f4 hmem hxr hxo
        go_enter Tryz.func24, Tryz.ntmps24
        go_wp2_with fail
        refine (HSY.out _).mono ?_
        rintro e w1 ⟨rfl, rfl⟩
        clear hX
        go_wp2_with fail
        refine HPR.out.mono ?_
        rintro e w2 ⟨rfl, hb2⟩
        have HB2 := Lib.hid (HBX.out.trans (hb2.mono HBX.out.size))
        have HX2 := Lib.hid (HX.out.to hb2)
        have HT2 := Lib.hid (HTX.out.below hb2)
        clear hb2 m0 m1 m2 m3 m4
        have m0 : w2.cell? ⟨w.heap.size, 0, none⟩ = some (.slice q.p0 q.T.spans.length q.c0) := HX2.out.cell 0 rfl
        have m1 : w2.cell? ⟨w.heap.size, 1, none⟩ = some (.slice q.p1 q.T.classes.length q.c1) := HX2.out.cell 1 rfl
        have m2 : w2.cell? ⟨w.heap.size, 2, none⟩ = some (.slice q.p2 q.T.pairs.length q.c2) := HX2.out.cell 2 rfl
        have m3 : w2.cell? ⟨w.heap.size, 3, none⟩ = some (.slice q.p3 q.T.ways.length q.c3) := HX2.out.cell 3 rfl
        have m4 : w2.cell? ⟨w.heap.size, 4, none⟩ = some (.slice q.p4 q.T.joins.length q.c4) := HX2.out.cell 4 rfl
        obtain ⟨Y, hY⟩ : ∃ Y, w2.alloc (.cells #[.int .i32 x.r, .int .i32 x.a, .int .i32 x.b, .bool xo] 52) = Y := ⟨_, rfl⟩
        have HBY := Lib.hid (show Below w2.heap.size w2 Y from hY ▸ bnew w2 _)
        have HY := Lib.hid (show Has Y w2.heap.size (.cells #[.int .i32 x.r, .int .i32 x.a, .int .i32 x.b, .bool xo] 52) from hY ▸ Has.new w2 _)
        have HXY := Lib.hid (HX2.out.to HBY.out)
        have HTY := Lib.hid (HT2.out.below HBY.out)
        have HB3 := Lib.hid (HB2.out.trans (HBY.out.mono HB2.out.size))
        clear m0 m1 m2 m3 m4
        have m0 : Y.cell? ⟨w.heap.size, 0, none⟩ = some (.slice q.p0 q.T.spans.length q.c0) := HXY.out.cell 0 rfl
        have m1 : Y.cell? ⟨w.heap.size, 1, none⟩ = some (.slice q.p1 q.T.classes.length q.c1) := HXY.out.cell 1 rfl
        have m2 : Y.cell? ⟨w.heap.size, 2, none⟩ = some (.slice q.p2 q.T.pairs.length q.c2) := HXY.out.cell 2 rfl
        have m3 : Y.cell? ⟨w.heap.size, 3, none⟩ = some (.slice q.p3 q.T.ways.length q.c3) := HXY.out.cell 3 rfl
        have m4 : Y.cell? ⟨w.heap.size, 4, none⟩ = some (.slice q.p4 q.T.joins.length q.c4) := HXY.out.cell 4 rfl
        have y1 : Y.cell? ⟨w2.heap.size, 1, none⟩ = some (.int .i32 x.a) := HY.out.cell 1 rfl
        go_wp2_with fail
        refine (HA.out Y HTY.out).mono ?_
        rintro e w4 ⟨rfl, hb4⟩
        have HB4 := Lib.hid (HB3.out.trans (hb4.mono HB3.out.size))
        have HY4 := Lib.hid (HY.out.to hb4)
        have HX4 := Lib.hid (HXY.out.to hb4)
        have HT4 := Lib.hid (HTY.out.below hb4)
        clear hb4 m0 m1 m2 m3 m4 y1 hY
        have y2 : w4.cell? ⟨w2.heap.size, 2, none⟩ = some (.int .i32 x.b) := HY4.out.cell 2 rfl
        have m0 : w4.cell? ⟨w.heap.size, 0, none⟩ = some (.slice q.p0 q.T.spans.length q.c0) := HX4.out.cell 0 rfl
        have m1 : w4.cell? ⟨w.heap.size, 1, none⟩ = some (.slice q.p1 q.T.classes.length q.c1) := HX4.out.cell 1 rfl
        have m2 : w4.cell? ⟨w.heap.size, 2, none⟩ = some (.slice q.p2 q.T.pairs.length q.c2) := HX4.out.cell 2 rfl
        have m3 : w4.cell? ⟨w.heap.size, 3, none⟩ = some (.slice q.p3 q.T.ways.length q.c3) := HX4.out.cell 3 rfl
        have m4 : w4.cell? ⟨w.heap.size, 4, none⟩ = some (.slice q.p4 q.T.joins.length q.c4) := HX4.out.cell 4 rfl
        go_wp2_with fail
        refine (HBB.out w4 HT4.out).mono ?_
        rintro e w5 ⟨rfl, hb5⟩
        have HB5 := Lib.hid (HB4.out.trans (hb5.mono HB4.out.size))
        clear hb5 m0 m1 m2 m3 m4 y2
        go_wp2_with fail
        go_ret
        exact ⟨by rw [HZ.out]; rfl, HB5.out⟩
end Go.Proofs.YtbclodbneonipaaGreat
/-
  The document's Apart (nfc).
-/
namespace Go.Proofs.YtbclodbneonipaaGreat
open Go.RowKit N
theorem wf_toNat {r : Int} (h : (Lit.int .i32 r).wf = true) : r.toNat + 1 ≤ 4294967296 := by
  have h2 : -2147483648 ≤ r ∧ r ≤ 2147483647 := by simpa [Lit.wf, IntKind.min, IntKind.max, IntKind.signed, IntKind.bits] using h
  omega
theorem apR_bad {T : Tab} {l : List Int} (h : chk T ≠ 0) : apR T l = ([], chk T) := by unfold apR; rw [if_pos h]
theorem apR_many {T : Tab} {l : List Int} (h : chk T = 0) (h2 : 4096 < (apl T.pairs l).length) : apR T l = ([], 3) := by unfold apR; rw [if_neg (by simp [h]), if_neg (by omega)]
theorem apR_good {T : Tab} {l : List Int} (h : chk T = 0) (h2 : (apl T.pairs l).length ≤ 4096) : apR T l = (apl T.pairs l, 0) := by unfold apR; rw [if_neg (by simp [h]), if_pos h2]
theorem own_nil (w : World) (B : Nat) : Own w B (.slice none 0 0) [] := World.ownsRow_nil _ _ _ _
set_option maxRecDepth 20000 in
set_option maxHeartbeats 16000000 in
/-- the document's Apart -/
theorem rapartl_is (q : TQ) (v : Value) (l : List Int) (R : List Int) (y : Int) (hR : apR q.T l = (R, y)) (w : World) (hv : RunesAt w v l) (hw : Wf32 l) (hl : l.length ≤ 35184372088320) (hT : TabAt w q) (hg : Good q.T) (hcap : q.T.pairs.length ≤ q.c2) :
    Calls Tryz.prog 9 #[q.v, v] w fun e w' => ∃ v', e = .returned (.tuple #[v', .int .i64 y]) ∧ Own w' w.heap.size v' R ∧ Below w.heap.size w w' := by
  obtain ⟨p, cap, rfl, hc⟩ := hv
  obtain ⟨n, hn⟩ : ∃ n, l.length = n := ⟨_, rfl⟩
  rw [hn] at hl ⊢
  have HN := Lib.hid hn
  have HC := Lib.hid hc
  have HW := Lib.hid hw
  obtain ⟨X, hX⟩ : ∃ X, w.alloc (.cells q.cs 28) = X := ⟨_, rfl⟩
  have HBX := Lib.hid (show Below w.heap.size w X from hX ▸ bnew w _)
  have HX := Lib.hid (show Has X w.heap.size (.cells q.cs 28) from hX ▸ Has.new w _)
  have HTX := Lib.hid (hT.below HBX.out)
  obtain ⟨c, hcc⟩ : ∃ c, chk q.T = c := ⟨_, rfl⟩
  have HCK := Lib.hid (rcheck_is q c (by rw [chk_eq, hcc]) X HTX.out hg.f hcap)
  have m0 : X.cell? ⟨w.heap.size, 0, none⟩ = some (.slice q.p0 q.T.spans.length q.c0) := HX.out.cell 0 rfl
  have m1 : X.cell? ⟨w.heap.size, 1, none⟩ = some (.slice q.p1 q.T.classes.length q.c1) := HX.out.cell 1 rfl
  have m2 : X.cell? ⟨w.heap.size, 2, none⟩ = some (.slice q.p2 q.T.pairs.length q.c2) := HX.out.cell 2 rfl
  have m3 : X.cell? ⟨w.heap.size, 3, none⟩ = some (.slice q.p3 q.T.ways.length q.c3) := HX.out.cell 3 rfl
  have m4 : X.cell? ⟨w.heap.size, 4, none⟩ = some (.slice q.p4 q.T.joins.length q.c4) := HX.out.cell 4 rfl
  unfold TQ.cs at hX
  unfold TQ.v at HCK ⊢
  by_cases hz : c = 0
  case neg =>
    have HRR := Lib.hid (show R = [] ∧ y = c from by
      have h := apR_bad (l := l) (show chk q.T ≠ 0 by rw [hcc]; exact hz)
      rw [hR] at h
      injection h with h1 h2
      exact ⟨h1, h2.trans hcc⟩)
    have e1 : (c == 0) = false := by simpa using hz
    have e2 : (c != 0) = true := by simpa using hz
    clear hz hcc hR hT hg hcap hc hw hn
    go_enter Tryz.func9, Tryz.ntmps9
    go_wp2_with fail
    clear hX
    refine HCK.out.mono ?_
    rintro e w1 ⟨rfl, hb1⟩
    have HB1 := Lib.hid (HBX.out.trans (hb1.mono HBX.out.size))
    clear hb1 m0 m1 m2 m3 m4
    go_wp2_with fail
    go_ret2
    rw [HRR.out.1, HRR.out.2]
    exact ⟨_, rfl, own_nil _ _, HB1.out⟩
  case pos =>
  subst hz
  by_cases hb : 4096 < n
  · have HRR := Lib.hid (show R = [] ∧ y = 3 from by
      have h := apR_many (l := l) hcc (Nat.lt_of_lt_of_le (by rw [hn]; exact hb) (apl_len q.T.pairs l))
      rw [hR] at h
      injection h with h1 h2
      exact ⟨h1, h2⟩)
    have d1 : (4096 : Int) < (n : Int) := by omega
    have d2 : decide ((4096 : Int) < (n : Int)) = true := decide_eq_true d1
    clear hb hcc hR hT hg hcap hc hw hn
    go_enter Tryz.func9, Tryz.ntmps9
    go_wp2_with fail
    clear hX
    refine HCK.out.mono ?_
    rintro e w1 ⟨rfl, hb1⟩
    have HB1 := Lib.hid (HBX.out.trans (hb1.mono HBX.out.size))
    clear hb1 m0 m1 m2 m3 m4
    go_wp2_with fail
    go_ret2
    rw [HRR.out.1, HRR.out.2]
    exact ⟨_, rfl, own_nil _ _, HB1.out⟩
  have HF := Lib.hid (chk_falls hcc)
  have HG := Lib.hid hg
  have HCC := Lib.hid hcc
  have HR := Lib.hid hR
  have d1 : ¬ (4096 : Int) < (n : Int) := by omega
  have d2 : decide ((4096 : Int) < (n : Int)) = false := decide_eq_false d1
  obtain ⟨i0, hi, hz0, hz1, hz2⟩ := info_parts infoRune
  clear hcc hR hT hg hcap hc hw hn
  go_enter Tryz.func9, Tryz.ntmps9
  go_wp2_with fail
  clear hX
  refine HCK.out.mono ?_
  rintro e w1 ⟨rfl, hb1⟩
  have HB1 := Lib.hid hb1
  have hs1 := hb1.size
  have hsX := HBX.out.size
  clear hb1 m0 m1 m2 m3 m4
  go_wp2_with fail
  go_loopw [7, 24] (fun ov i wr => ∃ (k : Nat) (O : List Int) (po : Option Addr) (co : Nat), k ≤ n ∧ i = .int .i64 k ∧ ov = .slice po O.length co ∧ O.length ≤ 4096 ∧ Hid (O = apl q.T.pairs (l.take k)) ∧ Hid (Own wr X.heap.size (.slice po O.length co) O) ∧ Hid (Below X.heap.size X wr)) (fun _ i _ => n - (intOf i).toNat)
  case atStart => exact ⟨0, [], none, 0, by omega, rfl, rfl, by simp, Lib.hid (by simp [apl]), Lib.hid (own_nil _ _), HB1⟩
  case round =>
    obtain ⟨k, O, po, co, hk, rfl, rfl, hO, HO, HOW, HB⟩ := hrel
    clear HB1
    have hsr := HB.out.size
    have HBw := Lib.hid (HBX.out.trans (HB.out.mono HBX.out.size))
    by_cases hlt : k < n
    · obtain ⟨r, hr⟩ : ∃ r, l[k]? = some r := ⟨_, List.getElem?_eq_getElem (by rw [HN.out]; exact hlt)⟩
      obtain ⟨g2, o2, rfl, hg2, hcr⟩ := HC.out k r hr
      have i1 : (k : Int) < (n : Int) := by omega
      have r0 : wr.cell? ⟨g2, o2 + k, none⟩ = some (.int .i32 r) := (HBw.out.cell (p := ⟨g2, o2 + k, none⟩) hg2).trans hcr
      have hrw : (Lit.int .i32 r).wf = true := HW.out r (List.mem_of_getElem? hr)
      have HTK := Lib.hid (show apl q.T.pairs (l.take (k + 1)) = O ++ apt q.T.pairs r from by
        obtain ⟨h1, h2⟩ := List.getElem?_eq_some_iff.1 hr
        rw [apl_take _ h1, HO.out, h2])
      obtain ⟨A, hA⟩ : ∃ A, apt q.T.pairs r = A := ⟨_, rfl⟩
      rw [hA] at HTK
      obtain ⟨left, hleft⟩ : ∃ left : Int, 4096 - (O.length : Int) = left := ⟨_, rfl⟩
      obtain ⟨m, hm⟩ : ∃ m, manyR q.T.pairs (r.toNat + 1) r left = m := ⟨_, rfl⟩
      have wk : IntKind.i64.wrap (4096 - (O.length : Int)) = left := by rw [IntWalk.i64_in _ (by omega)]; exact hleft
      have HXr := Lib.hid (HX.out.to HB.out)
      have HTr := Lib.hid (HTX.out.below HB.out)
      have HMY := Lib.hid (rmany_is q HF.out HG.out.f (r.toNat + 1) r left (by omega) (wf_toNat hrw) (by omega) (by omega) wr HTr.out)
      unfold TQ.v at HMY
      rw [hm] at HMY
      obtain ⟨y1, y2⟩ := many_is q.T.pairs (r.toNat + 1) r left (by omega)
      rw [hm] at y1 y2
      have hA2 : ap q.T.pairs (r.toNat + 1) r = A := hA
      rw [hA2] at y1 y2
      have m0 : wr.cell? ⟨w.heap.size, 0, none⟩ = some (.slice q.p0 q.T.spans.length q.c0) := HXr.out.cell 0 rfl
      have m1 : wr.cell? ⟨w.heap.size, 1, none⟩ = some (.slice q.p1 q.T.classes.length q.c1) := HXr.out.cell 1 rfl
      have m2 : wr.cell? ⟨w.heap.size, 2, none⟩ = some (.slice q.p2 q.T.pairs.length q.c2) := HXr.out.cell 2 rfl
      have m3 : wr.cell? ⟨w.heap.size, 3, none⟩ = some (.slice q.p3 q.T.ways.length q.c3) := HXr.out.cell 3 rfl
      have m4 : wr.cell? ⟨w.heap.size, 4, none⟩ = some (.slice q.p4 q.T.joins.length q.c4) := HXr.out.cell 4 rfl
      by_cases hbig : left < (A.length : Int)
      · have c1 : left < m := y2 hbig
        have c2 : decide (left < m) = true := decide_eq_true c1
        have HRR := Lib.hid (show R = [] ∧ y = 3 from by
          have h9 := apl_le q.T.pairs l (k + 1)
          rw [HTK.out, List.length_append] at h9
          have h := apR_many (l := l) HCC.out (by omega)
          rw [HR.out] at h
          injection h with h1 h2
          exact ⟨h1, h2⟩)
        clear hr hA hA2 hm y1 y2 hcr hleft hbig
        go_wp2_with fail
        refine HMY.out.mono ?_
        rintro e w2 ⟨rfl, hb2⟩
        have HB2 := Lib.hid (HBw.out.trans (hb2.mono HBw.out.size))
        clear hb2 m0 m1 m2 m3 m4 r0
        go_wp2_with fail
        go_ret2
        rw [HRR.out.1, HRR.out.2]
        exact ⟨_, rfl, own_nil _ _, HB2.out⟩
      · have c0 : m = (A.length : Nat) := y1 (by omega)
        have c1 : ¬ left < m := by omega
        have c2 : decide (left < m) = false := decide_eq_false c1
        have hAl : O.length + A.length ≤ 4096 := by omega
        have HAP := Lib.hid (fun (W : World) (h : TabAt W q) => rapart_is q HF.out HG.out.f HG.out.p (r.toNat + 1) r (by omega) hrw (by rw [hA]; omega) W h)
        unfold RapOut TQ.v at HAP
        rw [hA] at HAP
        have C0 := Lib.hid c0
        clear hr hA hA2 hm y1 y2 hcr hbig c0
        go_wp2_with fail
        refine HMY.out.mono ?_
        rintro e w2 ⟨rfl, hb2⟩
        have HB2 := Lib.hid (HB.out.trans (hb2.mono HB.out.size))
        have HX2 := Lib.hid (HX.out.to HB2.out)
        have HT2 := Lib.hid (HTX.out.below HB2.out)
        have HO2 := Lib.hid (HOW.out.to hb2)
        clear hb2 m0 m1 m2 m3 m4 r0 hleft
        have m0 : w2.cell? ⟨w.heap.size, 0, none⟩ = some (.slice q.p0 q.T.spans.length q.c0) := HX2.out.cell 0 rfl
        have m1 : w2.cell? ⟨w.heap.size, 1, none⟩ = some (.slice q.p1 q.T.classes.length q.c1) := HX2.out.cell 1 rfl
        have m2 : w2.cell? ⟨w.heap.size, 2, none⟩ = some (.slice q.p2 q.T.pairs.length q.c2) := HX2.out.cell 2 rfl
        have m3 : w2.cell? ⟨w.heap.size, 3, none⟩ = some (.slice q.p3 q.T.ways.length q.c3) := HX2.out.cell 3 rfl
        have m4 : w2.cell? ⟨w.heap.size, 4, none⟩ = some (.slice q.p4 q.T.joins.length q.c4) := HX2.out.cell 4 rfl
        go_wp2_with fail
        refine (HAP.out w2 HT2.out).mono ?_
        rintro e w3 ⟨v3, rfl, ho3, hb3⟩
        obtain ⟨p3, c3, rfl, _⟩ := id ho3.form
        have HM3 := Lib.hid ho3.at
        have HN3 := Lib.hid (own_nilc ho3)
        have HO3 := Lib.hid (HO2.out.to hb3)
        have HB3 := Lib.hid (HB2.out.trans (hb3.mono HB2.out.size))
        have hs3 := HB3.out.size
        clear hb3 ho3 m0 m1 m2 m3 m4
        go_wp2_with (at_builtin; refine wpList_append_runes (by rfl) _ _ rfl X.heap.size i0 Tryz.underlying29 hi hz0 hz1 hz2 (.slice po O.length co) O.length (O.map (Value.int .i32)) rfl HO3.out (.slice p3 A.length c3) A rfl HM3.out HN3.out (by unfold maxLen; omega) (by omega) hs3 ?_; intro v6 w6 hown6 hgrow6; have HO6 : Hid (Own w6 X.heap.size v6 (O ++ A)) := Lib.hid (own_app hown6); have HB6 : Hid (Below X.heap.size X w6) := Lib.hid (bel_grown (v := .slice po O.length co) HB3.out HO3.out hgrow6 hs3); clear hown6 hgrow6; obtain ⟨p6, c6, rfl, _⟩ := HO6.out.form)
        go_roundw
        case rel => exact ⟨k + 1, O ++ A, p6, c6, by omega, by go_num, by simp, by simp; omega, Lib.hid HTK.out.symm, HO6, HB6⟩
        case measure => simp [intOf]; omega
    · have HRR := Lib.hid (show R = O ∧ y = 0 from by
        have e9 : apl q.T.pairs l = O := by
          have h9 := HO.out
          rw [List.take_of_length_le (by rw [HN.out]; omega)] at h9
          exact h9.symm
        have h := apR_good (l := l) HCC.out (by rw [e9]; exact hO)
        rw [HR.out, e9] at h
        injection h with h1 h2
        exact ⟨h1, h2⟩)
      go_wp2_with fail
      go_ret2
      rw [HRR.out.1, HRR.out.2]
      exact ⟨_, rfl, own_base HBX.out.size HOW.out, HBw.out⟩
end Go.Proofs.YtbclodbneonipaaGreat
