import Derived.Test.YtbclodbneonipaaGreatTGM
import Derived.Test.YtbclodbneonipaaGreatSDM
import Derived.Laws.OwnMore
import Derived.RangeFuncBox
namespace Go.Proofs.YtbclodbneonipaaGreat
open Go.RowKit N
theorem infoRune : (Tryz.prog.info? 21).map (fun i => (i.zero, i.size, i.bytes)) = some (some (.int .i32 0), 1, 4) := by kernel_rfl
theorem grownBy_set (w : World) (g i : Nat) (u : Value) : w.grownBy (w.setCell ⟨g, i, none⟩ u) (some g) := ⟨rfl, rfl, rfl, by simp, fun k _ hk => Below.heap_setCell w ⟨g, i, none⟩ u k (fun e => hk (by rw [e]))⟩
theorem own_ne {w : World} {base : Nat} {e t : TypeId} {size n g : Nat} {v : Value} {xs : List Value} {cs : Array Value} (h : w.ownsRow base e size v n xs) (hg : Has w g (.cells cs t)) (hne : e ≠ t) : v.ownBlock = none ∨ v.ownBlock ≠ some g := by
  rcases h.2 with ⟨rfl, _⟩ | ⟨g', cap, cur, rfl, _, hh, _⟩
  · exact .inl rfl
  · refine .inr fun he => ?_
    have : g' = g := by simpa [Value.ownBlock] using he
    subst this
    unfold Has at hg
    rw [hh] at hg
    injection hg with hg
    injection hg with _ ht
    exact hne ht
theorem own_set {w : World} {base : Nat} {e t : TypeId} {size n g : Nat} {v : Value} {xs : List Value} {cs : Array Value} (h : w.ownsRow base e size v n xs) (hg : Has w g (.cells cs t)) (hne : e ≠ t) (i : Nat) (u : Value) : (w.setCell ⟨g, i, none⟩ u).ownsRow base e size v n xs :=
  h.kept (grownBy_set w g i u) (own_ne h hg hne)
theorem Has.grown {w w' : World} {g : Nat} {o : Obj} {row : Option Nat} (h : Has w g o) (hg : w.grownBy w' row) (hne : some g ≠ row) : Has w' g o := (hg.block g h.lt hne).trans h
theorem has_past {w w' : World} {g : Nat} {o : Obj} {v : Value} (h : Has w g o) (hg : w.grownBy w' v.ownBlock) (hne : v.ownBlock = none ∨ v.ownBlock ≠ some g) : Has w' g o :=
  h.grown hg (by rcases hne with h | h; · rw [h]; simp
                 · exact fun e => h e.symm)
/-- the runes l, owned: a slice of the call's own -/
abbrev Own (w : World) (B : Nat) (v : Value) (l : List Int) : Prop := w.ownsRow B 21 1 v l.length (l.map (Value.int .i32))
theorem Own.to {w w' : World} {B : Nat} {v : Value} {l : List Int} (h : Own w B v l) (hb : Below w.heap.size w w') : Own w' B v l := by
  refine ⟨h.1, ?_⟩
  rcases h.2 with hn | ⟨g, cap, cur, rfl, hB, hg, rest⟩
  · exact .inl hn
  · exact .inr ⟨g, cap, cur, rfl, hB, (hb.block g (Array.getElem?_eq_some_iff.1 hg).1).trans hg, rest⟩
theorem Own.form {w : World} {B : Nat} {v : Value} {l : List Int} (h : Own w B v l) : ∃ p cap, v = .slice p l.length cap ∧ (∀ k x, l[k]? = some x → ∃ g, p = some ⟨g, 0, none⟩ ∧ B ≤ g ∧ g < w.heap.size ∧ w.cell? ⟨g, k, none⟩ = some (.int .i32 x) ∧ w.frozen? ⟨g, k, none⟩ = false) := by
  have h0 := h
  rcases h.2 with ⟨rfl, hn⟩ | ⟨g, cap, cur, rfl, hB, hg, hc, _, _, ht⟩
  · refine ⟨none, 0, by rw [hn], fun k x hk => ?_⟩
    have := (List.getElem?_eq_some_iff.1 hk).1
    omega
  · refine ⟨some ⟨g, 0, none⟩, cap, rfl, fun k x hk => ⟨g, rfl, hB, (Array.getElem?_eq_some_iff.1 hg).1, ?_, h0.frozenAt k⟩⟩
    have hkl := (List.getElem?_eq_some_iff.1 hk).1
    rw [h0.cellAt k (by omega)]
    simp [hk]
theorem lit32 (w : World) (c : Int) : ∀ j u, ([Value.int .i32 c])[j]? = some u → (w.alloc (.cells #[.int .i32 c] 21)).cell? ((⟨w.heap.size, 0, none⟩ : Addr).add j) = some u := cell_one_new w _ 21
theorem one32 (c : Int) : ∀ u ∈ [Value.int .i32 c], u.oneCell' = true := by
  intro u hu
  simp only [List.mem_singleton] at hu
  subst hu; rfl
theorem own_snoc {B : Nat} {v' : Value} {l : List Int} {c : Int} {w : World} (h : w.ownsRow B 21 1 v' (l.length + 1) (l.map (Value.int .i32) ++ [.int .i32 c])) : Own w B v' (l ++ [c]) := by
  unfold Own
  rw [List.length_append, List.map_append]
  exact h
theorem bel_grown {B : Nat} {w0 w w' : World} {v : Value} {l : List Int} (hb : Below B w0 w) (ho : Own w B v l) (hg : w.grownBy w' v.ownBlock) (hB : B ≤ w.heap.size) : Below B w0 w' :=
  hb.grown hg hB (fun k hk => (ho.lt k hk).1)
set_option maxRecDepth 20000 in
set_option maxHeartbeats 4000000 in
theorem put_far_z (g : Nat) (q : TQ) (outv : Value) (l : List Int) (st last r : Int) (hr : (Lit.int .i32 r).wf = true) (hwl : Wf32 l) (hlen : (l.length + 1) * 4 ≤ 140737488355328) (hst : -1 ≤ st ∧ st < l.length) (w0 w : World) (hf : Fit q.T) (hT0 : TabAt w0 q) (hb0 : Below w0.heap.size w0 w) (hgB : w0.heap.size ≤ g) (hG : Has w g (.cells (GC q outv st last) 62)) (hO : Own w w0.heap.size outv l) (hno : decide (0 ≤ st ∧ (st = (l.length : Int) - 1 ∨ last < cls q.T r)) = false) (hz : cls q.T r = 0) :
    Calls Tryz.prog 33 #[.pointer (some ⟨g, 0, none⟩), .int .i32 r] w fun e w' => e = .returned (.tuple #[]) ∧ ∃ outv', Has w' g (.cells (GC q outv' (l.length : Nat) (cls q.T r)) 62) ∧ Own w' w0.heap.size outv' (l ++ [r]) ∧ Below w0.heap.size w0 w' := by
  obtain ⟨i0, hi, hz0, hz1, hz2⟩ := info_parts infoRune
  obtain ⟨p, cap, rfl, hcells⟩ := hO.form
  have HCE := Lib.hid hcells
  have HT0 := Lib.hid hT0
  have HF := Lib.hid hf
  have HO := Lib.hid hO
  have HG := Lib.hid hG
  have HB0 := Lib.hid hb0
  have HW := Lib.hid (And.intro hr hwl)
  have hB := hb0.size
  have hgl := hG.lt
  obtain ⟨c, hc⟩ : ∃ c, cls q.T r = c := ⟨_, rfl⟩
  have hcr := hf.cls r
  rw [hc] at hcr
  have HC := Lib.hid hc
  have m0 : w.cell? ⟨g, 0, none⟩ = some (.slice q.p0 q.T.spans.length q.c0) := hG.cell 0 rfl
  have m1 : w.cell? ⟨g, 1, none⟩ = some (.slice q.p1 q.T.classes.length q.c1) := hG.cell 1 rfl
  have m2 : w.cell? ⟨g, 2, none⟩ = some (.slice q.p2 q.T.pairs.length q.c2) := hG.cell 2 rfl
  have m3 : w.cell? ⟨g, 3, none⟩ = some (.slice q.p3 q.T.ways.length q.c3) := hG.cell 3 rfl
  have m4 : w.cell? ⟨g, 4, none⟩ = some (.slice q.p4 q.T.joins.length q.c4) := hG.cell 4 rfl
  clear hcells hT0 hf hO hG hb0 hr hwl hc
  obtain ⟨b, hb⟩ : ∃ b, decide (0 ≤ st ∧ (st = (l.length : Int) - 1 ∨ last < c)) = b := ⟨_, rfl⟩
  rw [HC.out] at hno hz ⊢
  obtain rfl : b = false := by rw [← hb]; exact hno
  have HB := Lib.hid hb
  have hzb : (c == 0) = true := by simpa using hz
  clear hb hno hz
  go_enter Tryz.func33, Tryz.ntmps33
  go_wp2_with fail
  refine (class_is q r c HC.out _ (HT0.out.below HB0.out) HF.out).mono ?_
  rintro e w1 ⟨rfl, hb1⟩
  have HG1 := Lib.hid (HG.out.to hb1)
  have HO1 := Lib.hid (HO.out.to hb1)
  have HB1 := Lib.hid (HB0.out.trans (hb1.mono hB))
  have hB1 := HB1.out.size
  clear hb1 m0 m1 m2 m3 m4
  go_wp2_with fail
  refine (reached_is g q _ l.length cap (by omega) st last c hst false HB.out _ HG1.out).mono ?_
  rintro e w2 ⟨rfl, hb2⟩
  have HG2 := Lib.hid (HG1.out.to hb2)
  have HO2 := Lib.hid (HO1.out.to hb2)
  have HB2 := Lib.hid (HB1.out.trans (hb2.mono hB1))
  have hB2 := HB2.out.size
  have hgl2 := HG2.out.lt
  clear hb2
  have n5 : w2.cell? ⟨g, 5, none⟩ = some (.slice p l.length cap) := HG2.out.cell 5 rfl
  have n6 : w2.cell? ⟨g, 6, none⟩ = some (.int .i64 st) := HG2.out.cell 6 rfl
  have n7 : w2.cell? ⟨g, 7, none⟩ = some (.int .u8 last) := HG2.out.cell 7 rfl
  have fz5 := HG2.out.free 5
  have fz6 := HG2.out.free 6
  have fz7 := HG2.out.free 7
  have HGx : Hid (Has (w2.setCell ⟨g, 6, none⟩ (.int .i64 (l.length : Nat))) g (.cells (GC q (.slice p l.length cap) (l.length : Nat) last) 62)) := Lib.hid (by have := HG2.out.set 6 (.int .i64 (l.length : Nat)); exact this)
  have HOx : Hid (Own (w2.setCell ⟨g, 6, none⟩ (.int .i64 (l.length : Nat))) w0.heap.size (.slice p l.length cap) l) := Lib.hid (own_set HO2.out HG2.out (by decide) 6 _)
  have HBx : Hid (Below w0.heap.size w0 (w2.setCell ⟨g, 6, none⟩ (.int .i64 (l.length : Nat)))) := Lib.hid ((HB2.out.setCell (p := ⟨g, 6, none⟩) hgB _))
  have hax := Has.alloc HGx.out (.cells #[.int .i32 r] 21)
  have hne := own_ne (HOx.out.alloc (.cells #[.int .i32 r] 21)) hax (by decide)
  have HAX := Lib.hid hax
  have HNE := Lib.hid hne
  clear hax hne
  go_wp2_with (at_builtin; refine wpList_append_own _ rfl _ _ 29 rfl w0.heap.size 21 i0 (.int .i32 0) 1 4 Tryz.underlying29 hi hz0 hz1 hz2 rfl (by decide) _ _ _ rfl (HOx.out.alloc _) ⟨w2.heap.size, 0, none⟩ 1 1 [.int .i32 r] rfl rfl (by first | exact lit32 (w2.setCell ⟨g, 6, none⟩ (.int .i64 (l.length : Nat))) r | (have := lit32 (w2.setCell ⟨g, 6, none⟩ (.int .i64 (l.length : Nat))) r; simpa using this)) (one32 r) (by unfold maxLen; omega) (by omega) (by first | omega | (simp; omega)) ?_; intro v3 w3 hown3 hgrow3 _; have HG3 : Hid (Has w3 g (.cells (GC q (.slice p l.length cap) (l.length : Nat) last) 62)) := Lib.hid (has_past (v := .slice p l.length cap) HAX.out hgrow3 HNE.out); have HO3 : Hid (Own w3 w0.heap.size v3 (l ++ [r])) := Lib.hid (own_snoc hown3); have HB3 : Hid (Below w0.heap.size w0 w3) := Lib.hid (bel_grown (v := .slice p l.length cap) (HBx.out.alloc (by first | omega | (simp; omega)) _) (HOx.out.alloc _) hgrow3 (by first | omega | (simp; omega))); clear hown3 hgrow3; have k5 : w3.cell? ⟨g, 5, none⟩ = some (.slice p l.length cap) := HG3.out.cell 5 rfl; have k7 : w3.cell? ⟨g, 7, none⟩ = some (.int .u8 last) := HG3.out.cell 7 rfl; have kz5 := HG3.out.free 5; have kz7 := HG3.out.free 7; obtain ⟨p3, cap3, rfl, _⟩ := HO3.out.form)
  have e9 : Value.slice p3 (l ++ [r]).length cap3 = .slice p3 (l.length + 1) cap3 := by simp
  have HO5 := HO3.out
  rw [e9] at HO5
  go_end0
  refine ⟨rfl, .slice p3 (l.length + 1) cap3, ?_, ?_, (HB3.out.setCell (p := ⟨g, 5, none⟩) hgB _).setCell (p := ⟨g, 7, none⟩) hgB _⟩
  · have := (HG3.out.set 5 (.slice p3 (l.length + 1) cap3)).set 7 (.int .u8 c); exact this
  · exact own_set (own_set HO5 HG3.out (by decide) 5 _) (HG3.out.set 5 (.slice p3 (l.length + 1) cap3)) (by decide) 7 _
set_option maxRecDepth 20000 in
set_option maxHeartbeats 4000000 in
theorem put_far_n (g : Nat) (q : TQ) (outv : Value) (l : List Int) (st last r : Int) (hr : (Lit.int .i32 r).wf = true) (hwl : Wf32 l) (hlen : (l.length + 1) * 4 ≤ 140737488355328) (hst : -1 ≤ st ∧ st < l.length) (w0 w : World) (hf : Fit q.T) (hT0 : TabAt w0 q) (hb0 : Below w0.heap.size w0 w) (hgB : w0.heap.size ≤ g) (hG : Has w g (.cells (GC q outv st last) 62)) (hO : Own w w0.heap.size outv l) (hno : decide (0 ≤ st ∧ (st = (l.length : Int) - 1 ∨ last < cls q.T r)) = false) (hz : ¬ cls q.T r = 0) :
    Calls Tryz.prog 33 #[.pointer (some ⟨g, 0, none⟩), .int .i32 r] w fun e w' => e = .returned (.tuple #[]) ∧ ∃ outv', Has w' g (.cells (GC q outv' st (cls q.T r)) 62) ∧ Own w' w0.heap.size outv' (l ++ [r]) ∧ Below w0.heap.size w0 w' := by
  obtain ⟨i0, hi, hz0, hz1, hz2⟩ := info_parts infoRune
  obtain ⟨p, cap, rfl, hcells⟩ := hO.form
  have HCE := Lib.hid hcells
  have HT0 := Lib.hid hT0
  have HF := Lib.hid hf
  have HO := Lib.hid hO
  have HG := Lib.hid hG
  have HB0 := Lib.hid hb0
  have HW := Lib.hid (And.intro hr hwl)
  have hB := hb0.size
  have hgl := hG.lt
  obtain ⟨c, hc⟩ : ∃ c, cls q.T r = c := ⟨_, rfl⟩
  have hcr := hf.cls r
  rw [hc] at hcr
  have HC := Lib.hid hc
  have m0 : w.cell? ⟨g, 0, none⟩ = some (.slice q.p0 q.T.spans.length q.c0) := hG.cell 0 rfl
  have m1 : w.cell? ⟨g, 1, none⟩ = some (.slice q.p1 q.T.classes.length q.c1) := hG.cell 1 rfl
  have m2 : w.cell? ⟨g, 2, none⟩ = some (.slice q.p2 q.T.pairs.length q.c2) := hG.cell 2 rfl
  have m3 : w.cell? ⟨g, 3, none⟩ = some (.slice q.p3 q.T.ways.length q.c3) := hG.cell 3 rfl
  have m4 : w.cell? ⟨g, 4, none⟩ = some (.slice q.p4 q.T.joins.length q.c4) := hG.cell 4 rfl
  clear hcells hT0 hf hO hG hb0 hr hwl hc
  obtain ⟨b, hb⟩ : ∃ b, decide (0 ≤ st ∧ (st = (l.length : Int) - 1 ∨ last < c)) = b := ⟨_, rfl⟩
  rw [HC.out] at hno hz ⊢
  obtain rfl : b = false := by rw [← hb]; exact hno
  have HB := Lib.hid hb
  have hzb : (c == 0) = false := by simpa using hz
  clear hb hno hz
  go_enter Tryz.func33, Tryz.ntmps33
  go_wp2_with fail
  refine (class_is q r c HC.out _ (HT0.out.below HB0.out) HF.out).mono ?_
  rintro e w1 ⟨rfl, hb1⟩
  have HG1 := Lib.hid (HG.out.to hb1)
  have HO1 := Lib.hid (HO.out.to hb1)
  have HB1 := Lib.hid (HB0.out.trans (hb1.mono hB))
  have hB1 := HB1.out.size
  clear hb1 m0 m1 m2 m3 m4
  go_wp2_with fail
  refine (reached_is g q _ l.length cap (by omega) st last c hst false HB.out _ HG1.out).mono ?_
  rintro e w2 ⟨rfl, hb2⟩
  have HG2 := Lib.hid (HG1.out.to hb2)
  have HO2 := Lib.hid (HO1.out.to hb2)
  have HB2 := Lib.hid (HB1.out.trans (hb2.mono hB1))
  have hB2 := HB2.out.size
  have hgl2 := HG2.out.lt
  clear hb2
  have n5 : w2.cell? ⟨g, 5, none⟩ = some (.slice p l.length cap) := HG2.out.cell 5 rfl
  have n6 : w2.cell? ⟨g, 6, none⟩ = some (.int .i64 st) := HG2.out.cell 6 rfl
  have n7 : w2.cell? ⟨g, 7, none⟩ = some (.int .u8 last) := HG2.out.cell 7 rfl
  have fz5 := HG2.out.free 5
  have fz6 := HG2.out.free 6
  have fz7 := HG2.out.free 7
  have HGx : Hid (Has w2 g (.cells (GC q (.slice p l.length cap) st last) 62)) := Lib.hid (HG2.out)
  have HOx : Hid (Own w2 w0.heap.size (.slice p l.length cap) l) := Lib.hid (HO2.out)
  have HBx : Hid (Below w0.heap.size w0 w2) := Lib.hid (HB2.out)
  have hax := Has.alloc HGx.out (.cells #[.int .i32 r] 21)
  have hne := own_ne (HOx.out.alloc (.cells #[.int .i32 r] 21)) hax (by decide)
  have HAX := Lib.hid hax
  have HNE := Lib.hid hne
  clear hax hne
  go_wp2_with (at_builtin; refine wpList_append_own _ rfl _ _ 29 rfl w0.heap.size 21 i0 (.int .i32 0) 1 4 Tryz.underlying29 hi hz0 hz1 hz2 rfl (by decide) _ _ _ rfl (HOx.out.alloc _) ⟨w2.heap.size, 0, none⟩ 1 1 [.int .i32 r] rfl rfl (by first | exact lit32 w2 r | (have := lit32 w2 r; simpa using this)) (one32 r) (by unfold maxLen; omega) (by omega) (by first | omega | (simp; omega)) ?_; intro v3 w3 hown3 hgrow3 _; have HG3 : Hid (Has w3 g (.cells (GC q (.slice p l.length cap) st last) 62)) := Lib.hid (has_past (v := .slice p l.length cap) HAX.out hgrow3 HNE.out); have HO3 : Hid (Own w3 w0.heap.size v3 (l ++ [r])) := Lib.hid (own_snoc hown3); have HB3 : Hid (Below w0.heap.size w0 w3) := Lib.hid (bel_grown (v := .slice p l.length cap) (HBx.out.alloc (by first | omega | (simp; omega)) _) (HOx.out.alloc _) hgrow3 (by first | omega | (simp; omega))); clear hown3 hgrow3; have k5 : w3.cell? ⟨g, 5, none⟩ = some (.slice p l.length cap) := HG3.out.cell 5 rfl; have k7 : w3.cell? ⟨g, 7, none⟩ = some (.int .u8 last) := HG3.out.cell 7 rfl; have kz5 := HG3.out.free 5; have kz7 := HG3.out.free 7; obtain ⟨p3, cap3, rfl, _⟩ := HO3.out.form)
  have e9 : Value.slice p3 (l ++ [r]).length cap3 = .slice p3 (l.length + 1) cap3 := by simp
  have HO5 := HO3.out
  rw [e9] at HO5
  go_end0
  refine ⟨rfl, .slice p3 (l.length + 1) cap3, ?_, ?_, (HB3.out.setCell (p := ⟨g, 5, none⟩) hgB _).setCell (p := ⟨g, 7, none⟩) hgB _⟩
  · have := (HG3.out.set 5 (.slice p3 (l.length + 1) cap3)).set 7 (.int .u8 c); exact this
  · exact own_set (own_set HO5 HG3.out (by decide) 5 _) (HG3.out.set 5 (.slice p3 (l.length + 1) cap3)) (by decide) 7 _
set_option maxRecDepth 20000 in
set_option maxHeartbeats 4000000 in
theorem put_none_z (g : Nat) (q : TQ) (outv : Value) (l : List Int) (st last r : Int) (hr : (Lit.int .i32 r).wf = true) (hwl : Wf32 l) (hlen : (l.length + 1) * 4 ≤ 140737488355328) (hst : -1 ≤ st ∧ st < l.length) (w0 w : World) (hf : Fit q.T) (hT0 : TabAt w0 q) (hb0 : Below w0.heap.size w0 w) (hgB : w0.heap.size ≤ g) (hG : Has w g (.cells (GC q outv st last) 62)) (hO : Own w w0.heap.size outv l) (hyes : decide (0 ≤ st ∧ (st = (l.length : Int) - 1 ∨ last < cls q.T r)) = true) (hz : cls q.T r = 0) (hbo : both q.T (l.getD st.toNat 0) r = none) :
    Calls Tryz.prog 33 #[.pointer (some ⟨g, 0, none⟩), .int .i32 r] w fun e w' => e = .returned (.tuple #[]) ∧ ∃ outv', Has w' g (.cells (GC q outv' (l.length : Nat) (cls q.T r)) 62) ∧ Own w' w0.heap.size outv' (l ++ [r]) ∧ Below w0.heap.size w0 w' := by
  obtain ⟨i0, hi, hz0, hz1, hz2⟩ := info_parts infoRune
  obtain ⟨p, cap, rfl, hcells⟩ := hO.form
  have HCE := Lib.hid hcells
  have HT0 := Lib.hid hT0
  have HF := Lib.hid hf
  have HO := Lib.hid hO
  have HG := Lib.hid hG
  have HB0 := Lib.hid hb0
  have HW := Lib.hid (And.intro hr hwl)
  have hB := hb0.size
  have hgl := hG.lt
  obtain ⟨c, hc⟩ : ∃ c, cls q.T r = c := ⟨_, rfl⟩
  have hcr := hf.cls r
  rw [hc] at hcr
  have HC := Lib.hid hc
  have m0 : w.cell? ⟨g, 0, none⟩ = some (.slice q.p0 q.T.spans.length q.c0) := hG.cell 0 rfl
  have m1 : w.cell? ⟨g, 1, none⟩ = some (.slice q.p1 q.T.classes.length q.c1) := hG.cell 1 rfl
  have m2 : w.cell? ⟨g, 2, none⟩ = some (.slice q.p2 q.T.pairs.length q.c2) := hG.cell 2 rfl
  have m3 : w.cell? ⟨g, 3, none⟩ = some (.slice q.p3 q.T.ways.length q.c3) := hG.cell 3 rfl
  have m4 : w.cell? ⟨g, 4, none⟩ = some (.slice q.p4 q.T.joins.length q.c4) := hG.cell 4 rfl
  clear hcells hT0 hf hO hG hb0 hr hwl hc
  obtain ⟨b, hb⟩ : ∃ b, decide (0 ≤ st ∧ (st = (l.length : Int) - 1 ∨ last < c)) = b := ⟨_, rfl⟩
  rw [HC.out] at hyes hz ⊢
  obtain rfl : b = true := by rw [← hb]; exact hyes
  have hyes2 := of_decide_eq_true hyes
  have HB := Lib.hid hb
  have hzb : (c == 0) = true := by simpa using hz
  obtain ⟨s, rfl⟩ := Int.eq_ofNat_of_zero_le hyes2.1
  have hsl : s < l.length := by omega
  obtain ⟨a, ha⟩ : ∃ a, l[s]? = some a := ⟨_, List.getElem?_eq_getElem hsl⟩
  obtain ⟨go, rfl, hgo1, hgo2, hgo3, hgo4⟩ := HCE.out s a ha
  have hba : both q.T a r = none := by
    have : l.getD (s : Int).toNat 0 = a := by simp [List.getD, ha]
    rw [← this]; exact hbo
  have HBA := Lib.hid hba
  have hwa : (Lit.int .i32 a).wf = true := HW.out.2 a (List.mem_of_getElem? ha)
  have HWA := Lib.hid hwa
  have HAs := Lib.hid ha
  clear hb hyes hyes2 hz hbo hba hwa ha hgo3 hgo4
  go_enter Tryz.func33, Tryz.ntmps33
  go_wp2_with fail
  refine (class_is q r c HC.out _ (HT0.out.below HB0.out) HF.out).mono ?_
  rintro e w1 ⟨rfl, hb1⟩
  have HG1 := Lib.hid (HG.out.to hb1)
  have HO1 := Lib.hid (HO.out.to hb1)
  have HB1 := Lib.hid (HB0.out.trans (hb1.mono hB))
  have hB1 := HB1.out.size
  clear hb1 m0 m1 m2 m3 m4
  go_wp2_with fail
  refine (reached_is g q _ l.length cap (by omega) (s : Int) last c hst true HB.out _ HG1.out).mono ?_
  rintro e w2 ⟨rfl, hb2⟩
  have HG2 := Lib.hid (HG1.out.to hb2)
  have HO2 := Lib.hid (HO1.out.to hb2)
  have HB2 := Lib.hid (HB1.out.trans (hb2.mono hB1))
  have hB2 := HB2.out.size
  have hgl2 := HG2.out.lt
  clear hb2
  obtain ⟨_, _, hpe, hce⟩ := HO2.out.form
  simp only [Value.slice.injEq] at hpe
  obtain ⟨rfl, _, rfl⟩ := hpe
  obtain ⟨_, hge, _, hg2l, hac, _⟩ := hce s a HAs.out
  simp only [Option.some.injEq, Addr.mk.injEq, and_true] at hge
  obtain rfl := hge
  have l5 : ∀ p : Later w2, p.v.cell? ⟨g, 5, none⟩ = some (.slice (some ⟨go, 0, none⟩) l.length cap) := fun p => p.c (HG2.out.cell 5 rfl) hgl2
  have l6 : ∀ p : Later w2, p.v.cell? ⟨g, 6, none⟩ = some (.int .i64 (s : Int)) := fun p => p.c (HG2.out.cell 6 rfl) hgl2
  have la : ∀ p : Later w2, p.v.cell? ⟨go, s, none⟩ = some (.int .i32 a) := fun p => p.c hac hg2l
  have lw : ∀ p : Later w2, Calls Tryz.prog 51 #[.pointer (some ⟨g, 0, none⟩), .int .i32 a, .int .i32 r] p.v fun e w' => e = .returned (.tuple #[.int .i32 0, .bool false]) ∧ Below p.v.heap.size p.v w' := fun p => whole_is g q _ _ _ a r HWA.out HW.out.1 none HBA.out p.v (HG2.out.to p.h) (HT0.out.below (HB2.out.trans (p.h.mono hB2))) HF.out
  have LW := Lib.hid lw
  have hsz : (s : Int) < (l.length : Int) := by omega
  clear hce hac lw
  go_wp2_with fail
  refine wp_region_quiet_later (by kernel_rfl) (by kernel_rfl) ?_
  repeat (quiet_step ((go_at_call 51; exact Calls.later_of (LW.out _))))
  refine wpQuiet_nil ?_
  rintro _ ⟨pp, rfl⟩
  have HG4 := Lib.hid (HG2.out.to pp.h)
  have HO4 := Lib.hid (HO2.out.to pp.h)
  have HB4 := Lib.hid (HB2.out.trans (pp.h.mono hB2))
  have hB4 := HB4.out.size
  clear l5 l6 la
  obtain ⟨w4, hw4⟩ : ∃ w4, w4 = pp.v := ⟨_, rfl⟩
  rw [← hw4] at HG4 HO4 HB4 hB4
  simp only [← hw4]
  clear hw4
  have n5 : w4.cell? ⟨g, 5, none⟩ = some (.slice (some ⟨go, 0, none⟩) l.length cap) := HG4.out.cell 5 rfl
  have n6 : w4.cell? ⟨g, 6, none⟩ = some (.int .i64 (s : Int)) := HG4.out.cell 6 rfl
  have n7 : w4.cell? ⟨g, 7, none⟩ = some (.int .u8 last) := HG4.out.cell 7 rfl
  have fz5 := HG4.out.free 5
  have fz6 := HG4.out.free 6
  have fz7 := HG4.out.free 7
  have HGx : Hid (Has (w4.setCell ⟨g, 6, none⟩ (.int .i64 (l.length : Nat))) g (.cells (GC q (.slice (some ⟨go, 0, none⟩) l.length cap) (l.length : Nat) last) 62)) := Lib.hid (by have := HG4.out.set 6 (.int .i64 (l.length : Nat)); exact this)
  have HOx : Hid (Own (w4.setCell ⟨g, 6, none⟩ (.int .i64 (l.length : Nat))) w0.heap.size (.slice (some ⟨go, 0, none⟩) l.length cap) l) := Lib.hid (own_set HO4.out HG4.out (by decide) 6 _)
  have HBx : Hid (Below w0.heap.size w0 (w4.setCell ⟨g, 6, none⟩ (.int .i64 (l.length : Nat)))) := Lib.hid ((HB4.out.setCell (p := ⟨g, 6, none⟩) hgB _))
  have hax := Has.alloc HGx.out (.cells #[.int .i32 r] 21)
  have hne := own_ne (HOx.out.alloc (.cells #[.int .i32 r] 21)) hax (by decide)
  have HAX := Lib.hid hax
  have HNE := Lib.hid hne
  clear hax hne
  go_wp2_with (at_builtin; refine wpList_append_own _ rfl _ _ 29 rfl w0.heap.size 21 i0 (.int .i32 0) 1 4 Tryz.underlying29 hi hz0 hz1 hz2 rfl (by decide) _ _ _ rfl (HOx.out.alloc _) ⟨w4.heap.size, 0, none⟩ 1 1 [.int .i32 r] rfl rfl (by first | exact lit32 (w4.setCell ⟨g, 6, none⟩ (.int .i64 (l.length : Nat))) r | (have := lit32 (w4.setCell ⟨g, 6, none⟩ (.int .i64 (l.length : Nat))) r; simpa using this)) (one32 r) (by unfold maxLen; omega) (by omega) (by first | omega | (simp; omega)) ?_; intro v3 w3 hown3 hgrow3 _; have HG3 : Hid (Has w3 g (.cells (GC q (.slice (some ⟨go, 0, none⟩) l.length cap) (l.length : Nat) last) 62)) := Lib.hid (has_past (v := .slice (some ⟨go, 0, none⟩) l.length cap) HAX.out hgrow3 HNE.out); have HO3 : Hid (Own w3 w0.heap.size v3 (l ++ [r])) := Lib.hid (own_snoc hown3); have HB3 : Hid (Below w0.heap.size w0 w3) := Lib.hid (bel_grown (v := .slice (some ⟨go, 0, none⟩) l.length cap) (HBx.out.alloc (by first | omega | (simp; omega)) _) (HOx.out.alloc _) hgrow3 (by first | omega | (simp; omega))); clear hown3 hgrow3; have k5 : w3.cell? ⟨g, 5, none⟩ = some (.slice (some ⟨go, 0, none⟩) l.length cap) := HG3.out.cell 5 rfl; have k7 : w3.cell? ⟨g, 7, none⟩ = some (.int .u8 last) := HG3.out.cell 7 rfl; have kz5 := HG3.out.free 5; have kz7 := HG3.out.free 7; obtain ⟨p3, cap3, rfl, _⟩ := HO3.out.form)
  have e9 : Value.slice p3 (l ++ [r]).length cap3 = .slice p3 (l.length + 1) cap3 := by simp
  have HO5 := HO3.out
  rw [e9] at HO5
  go_end0
  refine ⟨rfl, .slice p3 (l.length + 1) cap3, ?_, ?_, (HB3.out.setCell (p := ⟨g, 5, none⟩) hgB _).setCell (p := ⟨g, 7, none⟩) hgB _⟩
  · have := (HG3.out.set 5 (.slice p3 (l.length + 1) cap3)).set 7 (.int .u8 c); exact this
  · exact own_set (own_set HO5 HG3.out (by decide) 5 _) (HG3.out.set 5 (.slice p3 (l.length + 1) cap3)) (by decide) 7 _
set_option maxRecDepth 20000 in
set_option maxHeartbeats 4000000 in
theorem put_none_n (g : Nat) (q : TQ) (outv : Value) (l : List Int) (st last r : Int) (hr : (Lit.int .i32 r).wf = true) (hwl : Wf32 l) (hlen : (l.length + 1) * 4 ≤ 140737488355328) (hst : -1 ≤ st ∧ st < l.length) (w0 w : World) (hf : Fit q.T) (hT0 : TabAt w0 q) (hb0 : Below w0.heap.size w0 w) (hgB : w0.heap.size ≤ g) (hG : Has w g (.cells (GC q outv st last) 62)) (hO : Own w w0.heap.size outv l) (hyes : decide (0 ≤ st ∧ (st = (l.length : Int) - 1 ∨ last < cls q.T r)) = true) (hz : ¬ cls q.T r = 0) (hbo : both q.T (l.getD st.toNat 0) r = none) :
    Calls Tryz.prog 33 #[.pointer (some ⟨g, 0, none⟩), .int .i32 r] w fun e w' => e = .returned (.tuple #[]) ∧ ∃ outv', Has w' g (.cells (GC q outv' st (cls q.T r)) 62) ∧ Own w' w0.heap.size outv' (l ++ [r]) ∧ Below w0.heap.size w0 w' := by
  obtain ⟨i0, hi, hz0, hz1, hz2⟩ := info_parts infoRune
  obtain ⟨p, cap, rfl, hcells⟩ := hO.form
  have HCE := Lib.hid hcells
  have HT0 := Lib.hid hT0
  have HF := Lib.hid hf
  have HO := Lib.hid hO
  have HG := Lib.hid hG
  have HB0 := Lib.hid hb0
  have HW := Lib.hid (And.intro hr hwl)
  have hB := hb0.size
  have hgl := hG.lt
  obtain ⟨c, hc⟩ : ∃ c, cls q.T r = c := ⟨_, rfl⟩
  have hcr := hf.cls r
  rw [hc] at hcr
  have HC := Lib.hid hc
  have m0 : w.cell? ⟨g, 0, none⟩ = some (.slice q.p0 q.T.spans.length q.c0) := hG.cell 0 rfl
  have m1 : w.cell? ⟨g, 1, none⟩ = some (.slice q.p1 q.T.classes.length q.c1) := hG.cell 1 rfl
  have m2 : w.cell? ⟨g, 2, none⟩ = some (.slice q.p2 q.T.pairs.length q.c2) := hG.cell 2 rfl
  have m3 : w.cell? ⟨g, 3, none⟩ = some (.slice q.p3 q.T.ways.length q.c3) := hG.cell 3 rfl
  have m4 : w.cell? ⟨g, 4, none⟩ = some (.slice q.p4 q.T.joins.length q.c4) := hG.cell 4 rfl
  clear hcells hT0 hf hO hG hb0 hr hwl hc
  obtain ⟨b, hb⟩ : ∃ b, decide (0 ≤ st ∧ (st = (l.length : Int) - 1 ∨ last < c)) = b := ⟨_, rfl⟩
  rw [HC.out] at hyes hz ⊢
  obtain rfl : b = true := by rw [← hb]; exact hyes
  have hyes2 := of_decide_eq_true hyes
  have HB := Lib.hid hb
  have hzb : (c == 0) = false := by simpa using hz
  obtain ⟨s, rfl⟩ := Int.eq_ofNat_of_zero_le hyes2.1
  have hsl : s < l.length := by omega
  obtain ⟨a, ha⟩ : ∃ a, l[s]? = some a := ⟨_, List.getElem?_eq_getElem hsl⟩
  obtain ⟨go, rfl, hgo1, hgo2, hgo3, hgo4⟩ := HCE.out s a ha
  have hba : both q.T a r = none := by
    have : l.getD (s : Int).toNat 0 = a := by simp [List.getD, ha]
    rw [← this]; exact hbo
  have HBA := Lib.hid hba
  have hwa : (Lit.int .i32 a).wf = true := HW.out.2 a (List.mem_of_getElem? ha)
  have HWA := Lib.hid hwa
  have HAs := Lib.hid ha
  clear hb hyes hyes2 hz hbo hba hwa ha hgo3 hgo4
  go_enter Tryz.func33, Tryz.ntmps33
  go_wp2_with fail
  refine (class_is q r c HC.out _ (HT0.out.below HB0.out) HF.out).mono ?_
  rintro e w1 ⟨rfl, hb1⟩
  have HG1 := Lib.hid (HG.out.to hb1)
  have HO1 := Lib.hid (HO.out.to hb1)
  have HB1 := Lib.hid (HB0.out.trans (hb1.mono hB))
  have hB1 := HB1.out.size
  clear hb1 m0 m1 m2 m3 m4
  go_wp2_with fail
  refine (reached_is g q _ l.length cap (by omega) (s : Int) last c hst true HB.out _ HG1.out).mono ?_
  rintro e w2 ⟨rfl, hb2⟩
  have HG2 := Lib.hid (HG1.out.to hb2)
  have HO2 := Lib.hid (HO1.out.to hb2)
  have HB2 := Lib.hid (HB1.out.trans (hb2.mono hB1))
  have hB2 := HB2.out.size
  have hgl2 := HG2.out.lt
  clear hb2
  obtain ⟨_, _, hpe, hce⟩ := HO2.out.form
  simp only [Value.slice.injEq] at hpe
  obtain ⟨rfl, _, rfl⟩ := hpe
  obtain ⟨_, hge, _, hg2l, hac, _⟩ := hce s a HAs.out
  simp only [Option.some.injEq, Addr.mk.injEq, and_true] at hge
  obtain rfl := hge
  have l5 : ∀ p : Later w2, p.v.cell? ⟨g, 5, none⟩ = some (.slice (some ⟨go, 0, none⟩) l.length cap) := fun p => p.c (HG2.out.cell 5 rfl) hgl2
  have l6 : ∀ p : Later w2, p.v.cell? ⟨g, 6, none⟩ = some (.int .i64 (s : Int)) := fun p => p.c (HG2.out.cell 6 rfl) hgl2
  have la : ∀ p : Later w2, p.v.cell? ⟨go, s, none⟩ = some (.int .i32 a) := fun p => p.c hac hg2l
  have lw : ∀ p : Later w2, Calls Tryz.prog 51 #[.pointer (some ⟨g, 0, none⟩), .int .i32 a, .int .i32 r] p.v fun e w' => e = .returned (.tuple #[.int .i32 0, .bool false]) ∧ Below p.v.heap.size p.v w' := fun p => whole_is g q _ _ _ a r HWA.out HW.out.1 none HBA.out p.v (HG2.out.to p.h) (HT0.out.below (HB2.out.trans (p.h.mono hB2))) HF.out
  have LW := Lib.hid lw
  have hsz : (s : Int) < (l.length : Int) := by omega
  clear hce hac lw
  go_wp2_with fail
  refine wp_region_quiet_later (by kernel_rfl) (by kernel_rfl) ?_
  repeat (quiet_step ((go_at_call 51; exact Calls.later_of (LW.out _))))
  refine wpQuiet_nil ?_
  rintro _ ⟨pp, rfl⟩
  have HG4 := Lib.hid (HG2.out.to pp.h)
  have HO4 := Lib.hid (HO2.out.to pp.h)
  have HB4 := Lib.hid (HB2.out.trans (pp.h.mono hB2))
  have hB4 := HB4.out.size
  clear l5 l6 la
  obtain ⟨w4, hw4⟩ : ∃ w4, w4 = pp.v := ⟨_, rfl⟩
  rw [← hw4] at HG4 HO4 HB4 hB4
  simp only [← hw4]
  clear hw4
  have n5 : w4.cell? ⟨g, 5, none⟩ = some (.slice (some ⟨go, 0, none⟩) l.length cap) := HG4.out.cell 5 rfl
  have n6 : w4.cell? ⟨g, 6, none⟩ = some (.int .i64 (s : Int)) := HG4.out.cell 6 rfl
  have n7 : w4.cell? ⟨g, 7, none⟩ = some (.int .u8 last) := HG4.out.cell 7 rfl
  have fz5 := HG4.out.free 5
  have fz6 := HG4.out.free 6
  have fz7 := HG4.out.free 7
  have HGx : Hid (Has w4 g (.cells (GC q (.slice (some ⟨go, 0, none⟩) l.length cap) (s : Int) last) 62)) := Lib.hid (HG4.out)
  have HOx : Hid (Own w4 w0.heap.size (.slice (some ⟨go, 0, none⟩) l.length cap) l) := Lib.hid (HO4.out)
  have HBx : Hid (Below w0.heap.size w0 w4) := Lib.hid (HB4.out)
  have hax := Has.alloc HGx.out (.cells #[.int .i32 r] 21)
  have hne := own_ne (HOx.out.alloc (.cells #[.int .i32 r] 21)) hax (by decide)
  have HAX := Lib.hid hax
  have HNE := Lib.hid hne
  clear hax hne
  go_wp2_with (at_builtin; refine wpList_append_own _ rfl _ _ 29 rfl w0.heap.size 21 i0 (.int .i32 0) 1 4 Tryz.underlying29 hi hz0 hz1 hz2 rfl (by decide) _ _ _ rfl (HOx.out.alloc _) ⟨w4.heap.size, 0, none⟩ 1 1 [.int .i32 r] rfl rfl (by first | exact lit32 w4 r | (have := lit32 w4 r; simpa using this)) (one32 r) (by unfold maxLen; omega) (by omega) (by first | omega | (simp; omega)) ?_; intro v3 w3 hown3 hgrow3 _; have HG3 : Hid (Has w3 g (.cells (GC q (.slice (some ⟨go, 0, none⟩) l.length cap) (s : Int) last) 62)) := Lib.hid (has_past (v := .slice (some ⟨go, 0, none⟩) l.length cap) HAX.out hgrow3 HNE.out); have HO3 : Hid (Own w3 w0.heap.size v3 (l ++ [r])) := Lib.hid (own_snoc hown3); have HB3 : Hid (Below w0.heap.size w0 w3) := Lib.hid (bel_grown (v := .slice (some ⟨go, 0, none⟩) l.length cap) (HBx.out.alloc (by first | omega | (simp; omega)) _) (HOx.out.alloc _) hgrow3 (by first | omega | (simp; omega))); clear hown3 hgrow3; have k5 : w3.cell? ⟨g, 5, none⟩ = some (.slice (some ⟨go, 0, none⟩) l.length cap) := HG3.out.cell 5 rfl; have k7 : w3.cell? ⟨g, 7, none⟩ = some (.int .u8 last) := HG3.out.cell 7 rfl; have kz5 := HG3.out.free 5; have kz7 := HG3.out.free 7; obtain ⟨p3, cap3, rfl, _⟩ := HO3.out.form)
  have e9 : Value.slice p3 (l ++ [r]).length cap3 = .slice p3 (l.length + 1) cap3 := by simp
  have HO5 := HO3.out
  rw [e9] at HO5
  go_end0
  refine ⟨rfl, .slice p3 (l.length + 1) cap3, ?_, ?_, (HB3.out.setCell (p := ⟨g, 5, none⟩) hgB _).setCell (p := ⟨g, 7, none⟩) hgB _⟩
  · have := (HG3.out.set 5 (.slice p3 (l.length + 1) cap3)).set 7 (.int .u8 c); exact this
  · exact own_set (own_set HO5 HG3.out (by decide) 5 _) (HG3.out.set 5 (.slice p3 (l.length + 1) cap3)) (by decide) 7 _
end Go.Proofs.YtbclodbneonipaaGreat
