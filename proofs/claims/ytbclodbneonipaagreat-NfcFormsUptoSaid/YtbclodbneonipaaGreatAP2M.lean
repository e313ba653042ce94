import Derived.Test.YtbclodbneonipaaGreatAAM
import Derived.Maps.OwnOps
import Derived.StillTailTactics
namespace Go.Proofs.YtbclodbneonipaaGreat
open Go.RowKit N
theorem wpList_lookup_at (w : World) {ops : Array Oper} {rest : List Oper} {o : Oper} {a : Act} {Q : Exit → Act → World → Prop} (hg : o.guard = none) (m x : Operand) (hop : o.op = Op.lookup 43 m x true)
    (b n : Nat) (D : DataW Unit) (hm : a.eval m = .map (some b)) (hown : w.ownsMap Tryz.prog 21 plElem b n D) (r : Int) (hx : a.eval x = .int .i32 r) (hr : (Lit.int .i32 r).wf = true) (k : Bool) (hk : Maps.has D (.int .i32 r) = k) (f t : Int)
    (hat : D.atKey (.int .i32 r) zpl = .agg [.lit (.int .i64 f), .lit (.int .i64 t)])
    (hK : wpList Tryz.prog ops Q rest (a.put o.dst (.tuple #[.agg #[.int .i64 f, .int .i64 t], .bool k])) w) :
    wpList Tryz.prog ops Q (o :: rest) a w :=
  wpList_lookup_pl w hg m x hop b n D hm hown r hx hr k hk fun f' t' hat' => by
    rw [hat] at hat'
    simp only [DataW.agg.injEq, List.cons.injEq, DataW.lit.injEq, Lit.int.injEq, and_true, true_and] at hat'
    obtain ⟨rfl, rfl⟩ := hat'
    exact hK
/-- w' is behind w -/
def Behind (w w' : World) : Prop := Below w.heap.size w w'
set_option maxRecDepth 20000 in
set_option maxHeartbeats 1000000 in
theorem take_known (g m : Nat) (q : TQ) (l : List Int) (r : Int) (hr : (Lit.int .i32 r).wf = true) (w0 w : World) (outv : Value) (D : DataW Unit) (h1 : Has w g (.cells (AC q outv (.map (some m))) 45)) (h2 : Own w w0.heap.size outv l) (h3 : w.ownsMap Tryz.prog 21 plElem m 4294967296 D) (h4 : Known q.T.pairs D l) (h5 : Below w0.heap.size w0 w) (h6 : w0.heap.size ≤ g) (h7 : w0.heap.size ≤ m) (h8 : l.length ≤ 4096) (hk : Maps.has D (.int .i32 r) = true) :
    Calls Tryz.prog 22 #[.pointer (some ⟨g, 0, none⟩), .int .i32 r] w fun e w' => ∃ b, e = .returned (.bool b) ∧ AA2 w0 q g m l (apt q.T.pairs r) b w w' := by
  obtain ⟨f, t, hat, hft, htl, hseg⟩ := h4 r hk
  have hlen : (apt q.T.pairs r).length = t - f := by rw [← hseg, List.length_drop, List.length_take]; omega
  have hpos := apt_pos q.T.pairs r
  obtain ⟨p, cap, rfl, hcells⟩ := id h2.form
  obtain ⟨go, rfl, y1, y2, y3, y4⟩ := hcells 0 (l[0]'(by omega)) (List.getElem?_eq_getElem (by omega))
  have hcap : l.length ≤ cap := by
    rcases h2.2 with ⟨he, _⟩ | ⟨_, _, _, he, _, _, hc, _⟩
    · cases he
    · injection he with e1 e2 e3; omega
  have hR0 : RunesAt w (.slice (some ⟨go, f, none⟩) (t - f) (cap - f)) (apt q.T.pairs r) := by
    refine ⟨some ⟨go, f, none⟩, cap - f, by rw [hlen], fun k x hx => ?_⟩
    rw [← hseg, List.getElem?_drop] at hx
    have hkt : f + k < t := by
      have := (List.getElem?_eq_some_iff.1 hx).1
      rw [List.length_take] at this
      omega
    rw [List.getElem?_take_of_lt hkt] at hx
    obtain ⟨g', hg', z1, z2, z3, z4⟩ := hcells (f + k) x hx
    simp only [Option.some.injEq, Addr.mk.injEq, and_true] at hg'
    subst hg'
    exact ⟨go, f, rfl, z2, z3⟩
  have HR0 := Lib.hid hR0
  have HAS : Hid (AS w0 q g m w l) := Lib.hid ⟨_, D, h1, h2, h3, h4, h5, h6, h7, h8⟩
  have HM := Lib.hid h3
  have c5 : w.cell? ⟨g, 5, none⟩ = some (.slice (some ⟨go, 0, none⟩) l.length cap) := h1.cell 5 rfl
  have c6 : w.cell? ⟨g, 6, none⟩ = some (.map (some m)) := h1.cell 6 rfl
  have HS := Lib.hid (And.intro hseg (And.intro hlen hpos))
  clear h1 h2 h3 h4 h5 h6 h7 hcells hseg hlen y1 y2 y3 y4 hpos hR0
  go_enter Tryz.func22, Tryz.ntmps22
  go_wp2_with (first | (at_lookup; refine wpList_lookup_at _ rfl _ _ rfl m 4294967296 D rfl HM.out r rfl hr true hk (f : Nat) (t : Nat) hat ?_) | fail)
  have hbw := bnew w (.cells #[.int .i64 (f : Int), .int .i64 (t : Int)] 76)
  have d5 : (w.alloc (.cells #[.int .i64 (f : Int), .int .i64 (t : Int)] 76)).cell? ⟨g, 5, none⟩ = some (.slice (some ⟨go, 0, none⟩) l.length cap) := by
    obtain ⟨outv, D', k1, _⟩ := HAS.out
    exact (hbw.cell (p := ⟨g, 5, none⟩) k1.lt).trans c5
  have hnew := Has.new w (.cells #[.int .i64 (f : Int), .int .i64 (t : Int)] 76)
  have e0 := hnew.cell 0 rfl
  have e1 := hnew.cell 1 rfl
  have HA1 := Lib.hid (HAS.out.to hbw)
  have HR1 : Hid (RunesAt (w.alloc (.cells #[.int .i64 (f : Int), .int .i64 (t : Int)] 76)) (.slice (some ⟨go, f, none⟩) (t - f) (cap - f)) (apt q.T.pairs r)) := Lib.hid (HR0.out.below hbw)
  have htc : t ≤ cap := by omega
  have hcf : ¬ cap = f := by obtain ⟨_, h1, h2⟩ := HS.out; omega
  have HBW : Hid (Behind w (w.alloc (.cells #[.int .i64 (f : Int), .int .i64 (t : Int)] 76)).drew) := Lib.hid hbw.drew
  clear hbw hnew HR0 c5 c6 HAS HM hat hk
  generalize w.heap.size = G at *
  obtain ⟨w1, hw1⟩ : ∃ w1, w1 = w.alloc (.cells #[.int .i64 (f : Int), .int .i64 (t : Int)] 76) := ⟨_, rfl⟩
  rw [← hw1] at d5 e0 e1 HA1 HR1 HBW
  simp only [← hw1]
  clear hw1
  refine wp_region_still_tail 10 (by kernel_rfl) (by kernel_rfl) ?_
  simp only [List.take_succ_cons, List.take_zero, List.drop_succ_cons, List.drop_zero]
  repeat still_step
  refine wpStill_nil ?_
  change wpList _ _ _ _ _ w1.drew
  go_wp2_with fail
  refine (add_is g m q _ l (apt q.T.pairs r) (by have := HS.out.2.1; omega) w0 _ (HA1.out.to (Below.refl _ w1).drew) (HR1.out.below (Below.refl _ w1).drew) (fun n c e => by cases e)).mono ?_
  rintro e w2 ⟨b, rfl, hA⟩
  go_wp2
  go_ret
  exact ⟨b, rfl, hA.from HBW.out⟩
end Go.Proofs.YtbclodbneonipaaGreat
namespace Go.Proofs.YtbclodbneonipaaGreat
open Go.RowKit N
/-- what taking r apart does -/
def Does (f : FuncId) (w0 : World) (q : TQ) (g m : Nat) (r : Int) : Prop := ∀ (w : World) (l : List Int), AS w0 q g m w l → Calls Tryz.prog f #[.pointer (some ⟨g, 0, none⟩), .int .i32 r] w fun e w' => ∃ b, e = .returned (.bool b) ∧ AA2 w0 q g m l (apt q.T.pairs r) b w w'
set_option maxRecDepth 20000 in
set_option maxHeartbeats 1000000 in
theorem parts_syl (g m : Nat) (q : TQ) (r : Int) (w0 : World) (hF : Falls q.T.pairs) (hs : syl r = true) : Does 39 w0 q g m r := by
  intro w l h
  have HA := Lib.hid h
  have HE := Lib.hid (apt_syl hF hs)
  clear h
  go_enter Tryz.func39, Tryz.ntmps39
  go_wp2_with fail
  refine (issyl_is r true hs _).mono ?_
  rintro e w1 ⟨rfl, rfl⟩
  go_wp2_with fail
  refine (split_is r hs _).mono ?_
  rintro e w1 ⟨p, c, rfl, ho, hb⟩
  have HA1 := Lib.hid (HA.out.to hb)
  have HO := Lib.hid ho.at
  have HBW := Lib.hid hb
  have hsl := split_len r
  clear ho hb
  go_wp2_with fail
  refine (add_is g m q _ l (split r) (by omega) w0 _ HA1.out HO.out (fun n c e => by cases e)).mono ?_
  rintro e w2 ⟨b, rfl, hA⟩
  rw [← HE.out] at hA
  go_wp2
  go_ret
  exact ⟨b, rfl, hA.from HBW.out⟩
set_option maxRecDepth 20000 in
set_option maxHeartbeats 1000000 in
theorem parts_none (g m : Nat) (q : TQ) (r : Int) (w0 : World) (hT0 : TabAt w0 q) (hf : Fit q.T) (hF : Falls q.T.pairs) (hs : syl r = false) (hp : prL q.T.pairs r = none) : Does 39 w0 q g m r := by
  intro w l h
  have HA := Lib.hid h
  have HE := Lib.hid (apt_none hF hs hp)
  have HT0 := Lib.hid hT0
  have HF := Lib.hid hf
  have HP := Lib.hid hp
  obtain ⟨outv, D, h1, h2, h3, h4, h5, h6, h7, h8⟩ := h
  have HB := Lib.hid h5
  have m0 : w.cell? ⟨g, 0, none⟩ = some (.slice q.p0 q.T.spans.length q.c0) := h1.cell 0 rfl
  have m1 : w.cell? ⟨g, 1, none⟩ = some (.slice q.p1 q.T.classes.length q.c1) := h1.cell 1 rfl
  have m2 : w.cell? ⟨g, 2, none⟩ = some (.slice q.p2 q.T.pairs.length q.c2) := h1.cell 2 rfl
  have m3 : w.cell? ⟨g, 3, none⟩ = some (.slice q.p3 q.T.ways.length q.c3) := h1.cell 3 rfl
  have m4 : w.cell? ⟨g, 4, none⟩ = some (.slice q.p4 q.T.joins.length q.c4) := h1.cell 4 rfl
  clear h1 h2 h3 h4 h5 h6 h7 hT0 hf hp
  go_enter Tryz.func39, Tryz.ntmps39
  go_wp2_with fail
  refine (issyl_is r false hs _).mono ?_
  rintro e w1 ⟨rfl, rfl⟩
  go_wp2_with fail
  refine (pair_none q r HP.out _ (HT0.out.below HB.out) HF.out).mono ?_
  rintro e w1 ⟨rfl, hb⟩
  have HA1 := Lib.hid (HA.out.to hb)
  have HBW := Lib.hid hb
  clear hb m0 m1 m2 m3 m4
  go_wp2_with fail
  have HA2 := Lib.hid ((HA1.out.to (bnew w1 (.cells #[.int .i32 0, .int .i32 0, .int .i32 0, .bool false] 52))).to (bnew (w1.alloc (.cells #[.int .i32 0, .int .i32 0, .int .i32 0, .bool false] 52)) (.cells #[.int .i32 r] 21)))
  have hn1 := Has.new (w1.alloc (.cells #[.int .i32 0, .int .i32 0, .int .i32 0, .bool false] 52)) (.cells #[.int .i32 r] 21)
  rw [World.size_alloc] at hn1
  have hR := runes_lit (l := [r]) hn1 1
  have HBX := Lib.hid ((HBW.out.alloc HBW.out.size (.cells #[.int .i32 0, .int .i32 0, .int .i32 0, .bool false] 52)).alloc (by rw [World.size_alloc]; have := HBW.out.size; omega) (.cells #[.int .i32 r] 21))
  refine (add_is g m q _ l [r] (by simp) w0 _ HA2.out hR (fun n c e => by cases e)).mono ?_
  rintro e w2 ⟨b, rfl, hA⟩
  rw [← HE.out] at hA
  go_wp2
  go_ret
  exact ⟨b, rfl, hA.from HBX.out⟩
set_option maxRecDepth 20000 in
set_option maxHeartbeats 1000000 in
theorem parts_one (g m : Nat) (q : TQ) (r : Int) (y : Pa) (w0 : World) (hT0 : TabAt w0 q) (hf : Fit q.T) (hF : Falls q.T.pairs) (hs : syl r = false) (hp : prL q.T.pairs r = some y) (hb0 : y.b = 0) (ih : Does 22 w0 q g m y.a) : Does 39 w0 q g m r := by
  intro w l h
  have HA := Lib.hid h
  have HE := Lib.hid (apt_one hF hs hp hb0)
  have HT0 := Lib.hid hT0
  have HF := Lib.hid hf
  have HP := Lib.hid hp
  have IH := Lib.hid ih
  have hbz : (y.b == 0) = true := by simp [hb0]
  obtain ⟨outv, D, h1, h2, h3, h4, h5, h6, h7, h8⟩ := h
  have HB := Lib.hid h5
  have m0 : w.cell? ⟨g, 0, none⟩ = some (.slice q.p0 q.T.spans.length q.c0) := h1.cell 0 rfl
  have m1 : w.cell? ⟨g, 1, none⟩ = some (.slice q.p1 q.T.classes.length q.c1) := h1.cell 1 rfl
  have m2 : w.cell? ⟨g, 2, none⟩ = some (.slice q.p2 q.T.pairs.length q.c2) := h1.cell 2 rfl
  have m3 : w.cell? ⟨g, 3, none⟩ = some (.slice q.p3 q.T.ways.length q.c3) := h1.cell 3 rfl
  have m4 : w.cell? ⟨g, 4, none⟩ = some (.slice q.p4 q.T.joins.length q.c4) := h1.cell 4 rfl
  clear h1 h2 h3 h4 h5 h6 h7 hT0 hf hp ih hb0
  go_enter Tryz.func39, Tryz.ntmps39
  go_wp2_with fail
  refine (issyl_is r false hs _).mono ?_
  rintro e w1 ⟨rfl, rfl⟩
  go_wp2_with fail
  refine (pair_some q r y HP.out _ (HT0.out.below HB.out) HF.out).mono ?_
  rintro e w1 ⟨rfl, hb⟩
  have HA1 := Lib.hid ((HA.out.to hb).to (bnew w1 (.cells #[.int .i32 y.r, .int .i32 y.a, .int .i32 y.b, .bool y.one] 52)))
  have HBW := Lib.hid (hb.alloc hb.size (.cells #[.int .i32 y.r, .int .i32 y.a, .int .i32 y.b, .bool y.one] 52))
  have HN := Lib.hid (Has.new w1 (.cells #[.int .i32 y.r, .int .i32 y.a, .int .i32 y.b, .bool y.one] 52))
  clear hb m0 m1 m2 m3 m4
  go_wp2_with fail
  refine (IH.out _ l HA1.out).mono ?_
  rintro e w2 ⟨b, rfl, hA⟩
  rw [← HE.out] at hA
  have HA2 := Lib.hid hA
  clear hA
  cases b with
  | false =>
    go_wp2
    go_ret
    exact ⟨false, rfl, HA2.out.from HBW.out⟩
  | true =>
    have hA := HA2.out
    rcases hA with ⟨_, hS, hC⟩ | ⟨hno, _⟩
    · have hN := hC _ _ _ HN.out (by decide) (by decide)
      have n2 : w2.cell? ⟨w1.heap.size, 2, none⟩ = some (.int .i32 y.b) := hN.cell 2 rfl
      clear hS hC hN
      go_wp2
      go_ret
      exact ⟨true, rfl, HA2.out.from HBW.out⟩
    · cases hno
theorem AA2.less {w0 : World} {q : TQ} {g m : Nat} {l x : List Int} {w w' : World} (h : AA2 w0 q g m l x false w w') (y : List Int) : AA2 w0 q g m l (x ++ y) false w w' := by
  rcases h with ⟨h1, _⟩ | ⟨h1, h2, h3⟩
  · cases h1
  · exact .inr ⟨h1, by rw [List.length_append]; omega, h3⟩
theorem AA2.after {w0 : World} {q : TQ} {g m : Nat} {l x y : List Int} {b : Bool} {w w1 w' : World} (h : AA2 w0 q g m (l ++ x) y b w1 w') (hc : CellsKept w w1) : AA2 w0 q g m l (x ++ y) b w w' := by
  rcases h with ⟨h1, h2, h3⟩ | ⟨h1, h2, h3⟩
  · exact .inl ⟨h1, by rw [← List.append_assoc]; exact h2, hc.trans h3⟩
  · refine .inr ⟨h1, ?_, h3⟩
    rw [List.length_append] at h2
    rw [List.length_append]
    omega
set_option maxRecDepth 20000 in
set_option maxHeartbeats 1000000 in
theorem parts_two (g m : Nat) (q : TQ) (r : Int) (y : Pa) (w0 : World) (hT0 : TabAt w0 q) (hf : Fit q.T) (hF : Falls q.T.pairs) (hs : syl r = false) (hp : prL q.T.pairs r = some y) (hb0 : y.b ≠ 0) (ih : Does 22 w0 q g m y.a) (ih2 : Does 22 w0 q g m y.b) : Does 39 w0 q g m r := by
  intro w l h
  have HA := Lib.hid h
  have HE := Lib.hid (apt_two hF hs hp hb0)
  have HT0 := Lib.hid hT0
  have HF := Lib.hid hf
  have HP := Lib.hid hp
  have IH := Lib.hid ih
  have IH2 := Lib.hid ih2
  have hbz : (y.b == 0) = false := by simp [hb0]
  obtain ⟨outv, D, h1, h2, h3, h4, h5, h6, h7, h8⟩ := h
  have HB := Lib.hid h5
  have m0 : w.cell? ⟨g, 0, none⟩ = some (.slice q.p0 q.T.spans.length q.c0) := h1.cell 0 rfl
  have m1 : w.cell? ⟨g, 1, none⟩ = some (.slice q.p1 q.T.classes.length q.c1) := h1.cell 1 rfl
  have m2 : w.cell? ⟨g, 2, none⟩ = some (.slice q.p2 q.T.pairs.length q.c2) := h1.cell 2 rfl
  have m3 : w.cell? ⟨g, 3, none⟩ = some (.slice q.p3 q.T.ways.length q.c3) := h1.cell 3 rfl
  have m4 : w.cell? ⟨g, 4, none⟩ = some (.slice q.p4 q.T.joins.length q.c4) := h1.cell 4 rfl
  clear h1 h2 h3 h4 h5 h6 h7 hT0 hf hp ih ih2 hb0
  go_enter Tryz.func39, Tryz.ntmps39
  go_wp2_with fail
  refine (issyl_is r false hs _).mono ?_
  rintro e w1 ⟨rfl, rfl⟩
  go_wp2_with fail
  refine (pair_some q r y HP.out _ (HT0.out.below HB.out) HF.out).mono ?_
  rintro e w1 ⟨rfl, hb⟩
  have HA1 := Lib.hid ((HA.out.to hb).to (bnew w1 (.cells #[.int .i32 y.r, .int .i32 y.a, .int .i32 y.b, .bool y.one] 52)))
  have HBW := Lib.hid (hb.alloc hb.size (.cells #[.int .i32 y.r, .int .i32 y.a, .int .i32 y.b, .bool y.one] 52))
  have HN := Lib.hid (Has.new w1 (.cells #[.int .i32 y.r, .int .i32 y.a, .int .i32 y.b, .bool y.one] 52))
  clear hb m0 m1 m2 m3 m4
  go_wp2_with fail
  refine (IH.out _ l HA1.out).mono ?_
  rintro e w2 ⟨b, rfl, hA⟩
  have HA2 := Lib.hid hA
  clear hA
  cases b with
  | false =>
    go_wp2
    go_ret
    exact ⟨false, rfl, by rw [HE.out]; exact (HA2.out.less _).from HBW.out⟩
  | true =>
    have hA := HA2.out
    rcases hA with ⟨_, hS, hC⟩ | ⟨hno, _⟩
    · have hN := hC _ _ _ HN.out (by decide) (by decide)
      have n2 : w2.cell? ⟨w1.heap.size, 2, none⟩ = some (.int .i32 y.b) := hN.cell 2 rfl
      have HS2 := Lib.hid hS
      have HC2 := Lib.hid hC
      clear hS hC hN
      go_wp2_with fail
      refine (IH2.out _ _ HS2.out).mono ?_
      rintro e w3 ⟨b2, rfl, hA⟩
      have HA3 := Lib.hid hA
      clear hA
      go_wp2
      go_ret
      exact ⟨b2, rfl, by rw [HE.out]; exact (HA3.out.after HC2.out).from HBW.out⟩
    · cases hno
end Go.Proofs.YtbclodbneonipaaGreat
namespace Go.Proofs.YtbclodbneonipaaGreat
open Go.RowKit N
theorem cells_ne_map {w : World} {g m : Nat} {cs : Array Value} {t : TypeId} {es : Array MapEntry} {c : Nat} (h : Has w g (.cells cs t)) (k : Has w m (.map es c)) : g ≠ m := fun e => by
  unfold Has at h k
  rw [e, k] at h
  injection h with h
  cases h
/-- what is known of r is put down -/
theorem AS.known {w0 w w' : World} {q : TQ} {g m : Nat} {l : List Int} {r : Int} {outv : Value} {D : DataW Unit} (h1 : Has w g (.cells (AC q outv (.map (some m))) 45)) (h2 : Own w w0.heap.size outv (l ++ apt q.T.pairs r)) (h3 : w.ownsMap Tryz.prog 21 plElem m 4294967296 D) (h4 : Known q.T.pairs D (l ++ apt q.T.pairs r)) (h5 : Below w0.heap.size w0 w) (h6 : w0.heap.size ≤ g) (h7 : w0.heap.size ≤ m) (h8 : (l ++ apt q.T.pairs r).length ≤ 4096)
    (ho : w'.ownsMap Tryz.prog 21 plElem m (4294967296 + 1) (D.put (.int .i32 r) (.agg [.lit (.int .i64 (l.length : Nat)), .lit (.int .i64 ((l ++ apt q.T.pairs r).length : Nat))]))) (hg : w.grownBy w' (some m)) : AS w0 q g m w' (l ++ apt q.T.pairs r) ∧ CellsKept w w' := by
  obtain ⟨es, clock, hm, F, hs, hD⟩ := id h3
  have hM : Has w m (.map es clock) := hm
  refine ⟨⟨outv, _, h1.grown hg (fun e => cells_ne_map h1 hM (by injection e)), ?_, own_cap ho, known_put h3.isMap r h4, ?_, h6, h7, h8⟩, fun b cs t hb _ _ => hb.grown hg (fun e => cells_ne_map hb hM (by injection e))⟩
  · exact h2.kept hg (own_nemap h2 hM)
  · exact h5.grown hg h5.size (fun k hk => by cases hk; exact h7)
set_option maxRecDepth 20000 in
set_option maxHeartbeats 1000000 in
theorem take_new (g m : Nat) (q : TQ) (l : List Int) (r : Int) (hr : (Lit.int .i32 r).wf = true) (w0 w : World) (outv : Value) (D : DataW Unit) (h1 : Has w g (.cells (AC q outv (.map (some m))) 45)) (h2 : Own w w0.heap.size outv l) (h3 : w.ownsMap Tryz.prog 21 plElem m 4294967296 D) (h4 : Known q.T.pairs D l) (h5 : Below w0.heap.size w0 w) (h6 : w0.heap.size ≤ g) (h7 : w0.heap.size ≤ m) (h8 : l.length ≤ 4096) (hk : Maps.has D (.int .i32 r) = false) (ih : Does 39 w0 q g m r) :
    Calls Tryz.prog 22 #[.pointer (some ⟨g, 0, none⟩), .int .i32 r] w fun e w' => ∃ b, e = .returned (.bool b) ∧ AA2 w0 q g m l (apt q.T.pairs r) b w w' := by
  obtain ⟨p, cap, rfl, hcells⟩ := id h2.form
  have HAS : Hid (AS w0 q g m w l) := Lib.hid ⟨_, D, h1, h2, h3, h4, h5, h6, h7, h8⟩
  have HM := Lib.hid h3
  have IH := Lib.hid ih
  have HR := Lib.hid hr
  have HB : Hid (w0.heap.size ≤ m) := Lib.hid h7
  have c5 : w.cell? ⟨g, 5, none⟩ = some (.slice p l.length cap) := h1.cell 5 rfl
  have c6 : w.cell? ⟨g, 6, none⟩ = some (.map (some m)) := h1.cell 6 rfl
  have hgl := h1.lt
  clear h1 h2 h3 h4 h5 h6 h7 hcells ih
  go_enter Tryz.func22, Tryz.ntmps22
  go_wp2_with (first | (at_lookup; refine wpList_lookup_pl _ rfl _ _ rfl m 4294967296 D rfl HM.out r rfl HR.out false hk ?_; intro f t hat; clear hat) | fail)
  have hbw := bnew w (.cells #[.int .i64 f, .int .i64 t] 76)
  have HA1 := Lib.hid (HAS.out.to hbw)
  have HBW : Hid (Behind w (w.alloc (.cells #[.int .i64 f, .int .i64 t] 76))) := Lib.hid hbw
  clear hbw HM c6 HAS hk
  refine (IH.out _ l HA1.out).mono ?_
  rintro e w1 ⟨b, rfl, hA⟩
  have HA2 := Lib.hid hA
  clear hA c5
  cases b with
  | false =>
    go_wp2
    go_ret
    exact ⟨false, rfl, HA2.out.from HBW.out⟩
  | true =>
    have hA := HA2.out
    rcases hA with ⟨_, hS, hC⟩ | ⟨hno, _⟩
    · obtain ⟨outv2, D2, k1, k2, k3, k4, k5, k6, k7, k8⟩ := hS
      obtain ⟨p2, cap2, rfl, hc2⟩ := id k2.form
      have n5 : w1.cell? ⟨g, 5, none⟩ = some (.slice p2 (l ++ apt q.T.pairs r).length cap2) := k1.cell 5 rfl
      have n6 : w1.cell? ⟨g, 6, none⟩ = some (.map (some m)) := k1.cell 6 rfl
      obtain ⟨n, hn⟩ : ∃ n, (l ++ apt q.T.pairs r).length = n := ⟨_, rfl⟩
      have hn4 : n ≤ 4096 := by omega
      rw [hn] at n5
      have HN := Lib.hid hn
      have HK3 := Lib.hid k3.drew
      have HC := Lib.hid hC
      have HSt : Hid (∀ w', w'.ownsMap Tryz.prog 21 plElem m (4294967296 + 1) (D2.put (.int .i32 r) (.agg [.lit (.int .i64 (l.length : Nat)), .lit (.int .i64 (n : Nat))])) → w1.drew.grownBy w' (some m) → AS w0 q g m w' (l ++ apt q.T.pairs r) ∧ CellsKept w1 w') := Lib.hid (fun w' ho hg => by
        have hd := (Below.refl w1.heap.size w1).drew
        have hst := AS.known (w := w1.drew) (k1.to hd) (k2.to hd) k3.drew k4 (k5.trans (hd.mono k5.size)) k6 k7 k8 (by rw [hn]; exact ho) hg
        exact ⟨hst.1, (CellsKept.below hd).trans hst.2⟩)
      clear k1 k2 k3 k4 k5 k6 k7 k8 hc2 hC hn
      go_wp2_with fail
      refine wp_region_still_tail 12 (by kernel_rfl) (by kernel_rfl) ?_
      simp only [List.take_succ_cons, List.take_zero, List.drop_succ_cons, List.drop_zero]
      repeat still_step
      refine wpStill_nil ?_
      change wpList _ _ _ _ _ w1.drew
      go_wp2_with (first | (at_mapUpdate; refine wpList_mapUpdate_own _ rfl _ _ _ 43 rfl 21 76 law21 Tryz.underlying43 plElem m 4294967296 D2 rfl HK3.out (by unfold maxLen; omega) (.int .i32 r) (.agg #[.int .i64 (l.length : Nat), .int .i64 (n : Nat)]) (.int .i32 r) rfl rfl (key32 HR.out) (.agg [.lit (.int .i64 (l.length : Nat)), .lit (.int .i64 (n : Nat))]) [] (plElem_mk _ _) ?_; intro w2 ho hg; have HFin := Lib.hid (HSt.out w2 ho hg); clear ho hg) | fail)
      go_ret
      exact ⟨true, rfl, .inl ⟨rfl, HFin.out.1, (CellsKept.below HBW.out).trans (HC.out.trans HFin.out.2)⟩⟩
    · cases hno
/-- taking apart comes to an end, and does what it is to do -/
theorem take_is (g m : Nat) (q : TQ) (w0 : World) (hT0 : TabAt w0 q) (hf : Fit q.T) (hF : Falls q.T.pairs) (hP : PairWf q.T) : ∀ (n : Nat) (r : Int), r.toNat < n → (Lit.int .i32 r).wf = true → Does 22 w0 q g m r := by
  intro n
  induction n with
  | zero => intro r h; omega
  | succ n ih =>
    intro r h hr w l hA
    have hp97 : Does 39 w0 q g m r := by
      cases hs : syl r with
      | true => exact parts_syl g m q r w0 hF hs
      | false =>
        cases hp : prL q.T.pairs r with
        | none => exact parts_none g m q r w0 hT0 hf hF hs hp
        | some y =>
          obtain ⟨hm, hyr⟩ := prL_some hp
          obtain ⟨a0, a1, b0, b1⟩ := hF y hm
          obtain ⟨_, wa, wb⟩ := hP y hm
          by_cases hb : y.b = 0
          · exact parts_one g m q r y w0 hT0 hf hF hs hp hb (ih y.a (by omega) wa)
          · exact parts_two g m q r y w0 hT0 hf hF hs hp hb (ih y.a (by omega) wa) (ih y.b (by omega) wb)
    obtain ⟨outv, D, h1, h2, h3, h4, h5, h6, h7, h8⟩ := hA
    cases hk : Maps.has D (.int .i32 r) with
    | true => exact take_known g m q l r hr w0 w outv D h1 h2 h3 h4 h5 h6 h7 h8 hk
    | false => exact take_new g m q l r hr w0 w outv D h1 h2 h3 h4 h5 h6 h7 h8 hk hp97
end Go.Proofs.YtbclodbneonipaaGreat
