import Derived.Test.YtbclodbneonipaaGreatTCM
namespace Go.Proofs.YtbclodbneonipaaGreat
open Go.RowKit N
set_option maxHeartbeats 4000000 in
theorem find_pair_some (v : Value) (l : List Pa) (r : Int) (w : World) (hl : l.length ≤ maxLen) (h : Lst w 4 encPa v l) (y : Pa) (hy : l.find? (fun x => x.r == r) = some y) :
    Calls Tryz.prog 107 #[.agg #[v, .func (.func 102) #[] #[]], .int .i32 r] w fun e w' => e = .returned (.tuple #[.agg #[Value.int IntKind.i32 y.r, Value.int IntKind.i32 y.a, Value.int IntKind.i32 y.b, Value.bool y.one], .bool true]) ∧ Below w.heap.size w w' := by
  unfold maxLen at hl
  obtain ⟨p, cap, rfl, hn, hc⟩ := h
  have HC := Lib.hid hc
  have HY := Lib.hid hy
  clear hc hy
  go_enter Tryz.func107, Tryz.ntmps107
  go_wp2
  have hH0 := (Has.new w (Obj.cells #[Value.slice p l.length cap, Value.func (Fn.func 102) #[] #[]] 121)).alloc (Obj.cells #[Value.int IntKind.i32 0, Value.int IntKind.i32 0, Value.int IntKind.i32 0, Value.bool false] 52)
  have hH1 := Has.new (w.alloc (Obj.cells #[Value.slice p l.length cap, Value.func (Fn.func 102) #[] #[]] 121)) (Obj.cells #[Value.int IntKind.i32 0, Value.int IntKind.i32 0, Value.int IntKind.i32 0, Value.bool false] 52)
  have hbW := (bnew w (Obj.cells #[Value.slice p l.length cap, Value.func (Fn.func 102) #[] #[]] 121)).alloc (by simp) (Obj.cells #[Value.int IntKind.i32 0, Value.int IntKind.i32 0, Value.int IntKind.i32 0, Value.bool false] 52)
  rw [World.size_alloc] at hH1
  go_loopw [14] (fun i wr => ∃ k : Nat, k ≤ l.length ∧ i = .int .i64 k ∧ Hid ((l.take k).find? (fun x => x.r == r) = none) ∧ Below w.heap.size w wr ∧ Has wr w.heap.size (Obj.cells #[Value.slice p l.length cap, Value.func (Fn.func 102) #[] #[]] 121) ∧ Has wr (w.heap.size + 1) (Obj.cells #[Value.int IntKind.i32 0, Value.int IntKind.i32 0, Value.int IntKind.i32 0, Value.bool false] 52)) (fun i _ => l.length - (intOf i).toNat)
  case atStart => exact ⟨0, Nat.zero_le _, rfl, Lib.hid rfl, hbW, hH0, hH1⟩
  case round =>
    obtain ⟨k, hk, rfl, HN, hB, h0, h1⟩ := hrel
    clear hH0 hH1 hbW
    have hsz := h1.lt
    have hsy := h0.lt
    have r0 : wr.cell? ⟨w.heap.size, 0, none⟩ = some (Value.slice p l.length cap) := h0.cell 0 rfl
    have r1 : wr.cell? ⟨w.heap.size, 1, none⟩ = some (Value.func (Fn.func 102) #[] #[]) := h0.cell 1 rfl
    have d0 : wr.cell? ⟨w.heap.size + 1, 0, none⟩ = some (Value.int IntKind.i32 0) := h1.cell 0 rfl
    have f0 := h1.free 0
    have d1 : wr.cell? ⟨w.heap.size + 1, 1, none⟩ = some (Value.int IntKind.i32 0) := h1.cell 1 rfl
    have f1 := h1.free 1
    have d2 : wr.cell? ⟨w.heap.size + 1, 2, none⟩ = some (Value.int IntKind.i32 0) := h1.cell 2 rfl
    have f2 := h1.free 2
    have d3 : wr.cell? ⟨w.heap.size + 1, 3, none⟩ = some (Value.bool false) := h1.cell 3 rfl
    have f3 := h1.free 3
    by_cases hlt : k < l.length
    · obtain ⟨g, o, rfl, hg, hx⟩ := HC.out k l[k] (List.getElem?_eq_getElem hlt)
      have c0 := (hB.cell (p := ⟨g, o + k * 4, none⟩) hg).trans (hx 0 _ rfl)
      have c1 := (hB.cell (p := ⟨g, o + k * 4 + 1, none⟩) hg).trans (hx 1 _ rfl)
      have c2 := (hB.cell (p := ⟨g, o + k * 4 + 2, none⟩) hg).trans (hx 2 _ rfl)
      have c3 := (hB.cell (p := ⟨g, o + k * 4 + 3, none⟩) hg).trans (hx 3 _ rfl)
      obtain ⟨ek, hek⟩ : ∃ x, x = l[k] := ⟨_, rfl⟩
      rw [← hek] at c0 c1 c2 c3
      have HK := Lib.hid hek
      have HB := Lib.hid hB
      have H0 := Lib.hid h0
      have H1 := Lib.hid h1
      clear hx hek hB h0 h1
      go_wp2_with fail
      refine (ends_pair _ _).mono ?_
      rintro e w1 ⟨rfl, hb1⟩
      have hc1 : ∀ b o, b < (wr.alloc (Obj.cells #[Value.int IntKind.i32 ek.r, Value.int IntKind.i32 ek.a, Value.int IntKind.i32 ek.b, Value.bool ek.one] 52)).heap.size → w1.cell? ⟨b, o, none⟩ = (wr.alloc (Obj.cells #[Value.int IntKind.i32 ek.r, Value.int IntKind.i32 ek.a, Value.int IntKind.i32 ek.b, Value.bool ek.one] 52)).cell? ⟨b, o, none⟩ := fun b o h => hb1.cell (p := ⟨b, o, none⟩) h
      have hf1 : ∀ b o, b < (wr.alloc (Obj.cells #[Value.int IntKind.i32 ek.r, Value.int IntKind.i32 ek.a, Value.int IntKind.i32 ek.b, Value.bool ek.one] 52)).heap.size → w1.frozen? ⟨b, o, none⟩ = (wr.alloc (Obj.cells #[Value.int IntKind.i32 ek.r, Value.int IntKind.i32 ek.a, Value.int IntKind.i32 ek.b, Value.bool ek.one] 52)).frozen? ⟨b, o, none⟩ := fun b o h => hb1.frozen (p := ⟨b, o, none⟩) h
      have hz1 : wr.heap.size < w1.heap.size := by have := hb1.size; simp at this; omega
      have HB1 : Hid (Below w.heap.size w w1) := Lib.hid ((HB.out.alloc (by omega) _).trans (hb1.mono (by simp; omega)))
      have HX0 : Hid (Has w1 w.heap.size (Obj.cells #[Value.slice (some ⟨g, o, none⟩) l.length cap, Value.func (Fn.func 102) #[] #[]] 121)) := Lib.hid ((H0.out.alloc _).to hb1)
      have HX1 : Hid (Has w1 (w.heap.size + 1) (Obj.cells #[Value.int IntKind.i32 0, Value.int IntKind.i32 0, Value.int IntKind.i32 0, Value.bool false] 52)) := Lib.hid ((H1.out.alloc _).to hb1)
      clear hb1
      have x0 : w1.cell? ⟨w.heap.size + 1, 0, none⟩ = some (Value.int IntKind.i32 0) := HX1.out.cell 0 rfl
      have y0 := HX1.out.free 0
      have x1 : w1.cell? ⟨w.heap.size + 1, 1, none⟩ = some (Value.int IntKind.i32 0) := HX1.out.cell 1 rfl
      have y1 := HX1.out.free 1
      have x2 : w1.cell? ⟨w.heap.size + 1, 2, none⟩ = some (Value.int IntKind.i32 0) := HX1.out.cell 2 rfl
      have y2 := HX1.out.free 2
      have x3 : w1.cell? ⟨w.heap.size + 1, 3, none⟩ = some (Value.bool false) := HX1.out.cell 3 rfl
      have y3 := HX1.out.free 3
      by_cases he : ek.r = r
      · have e1 : decide (ek.r ≤ r) = true := decide_eq_true (by omega)
        have e2 : decide (r ≤ ek.r) = true := decide_eq_true (by omega)
        have HE : Hid (y = ek) := Lib.hid (by
          have := find_here (f := fun x => x.r == r) hlt HN.out (by rw [← HK.out]; simp [he])
          rw [HY.out] at this
          rw [HK.out]; exact Option.some.inj this)
        have HER := Lib.hid he
        clear he
        go_wp2
        refine bodyPost_ret (v := .tuple #[.agg #[Value.int IntKind.i32 ek.r, Value.int IntKind.i32 ek.a, Value.int IntKind.i32 ek.b, Value.bool ek.one], .bool true]) (by simp [results, Tryz.results107, go_sem, x0, x1, x2, x3]) rfl ⟨by rw [HE.out], ?_⟩
        exact (((HB1.out.setCell (p := ⟨_, 0, none⟩) (by simp) _).setCell (p := ⟨_, 1, none⟩) (by simp) _).setCell (p := ⟨_, 2, none⟩) (by simp) _).setCell (p := ⟨_, 3, none⟩) (by simp) _
      · have HN1 : Hid ((l.take (k + 1)).find? (fun x => x.r == r) = none) := Lib.hid (find_none hlt HN.out (by rw [← HK.out]; simpa using he))
        by_cases hle : ek.r ≤ r
        · have e1 : decide (ek.r ≤ r) = true := decide_eq_true (by omega)
          have e2 : decide (r ≤ ek.r) = false := decide_eq_false (by omega)
          go_wp2
          go_roundw
          case rel => exact ⟨k + 1, by omega, by go_num, HN1, HB1.out, HX0.out, HX1.out⟩
          case measure => simp [intOf]; omega
        · have e1 : decide (ek.r ≤ r) = false := decide_eq_false (by omega)
          go_wp2
          go_roundw
          case rel => exact ⟨k + 1, by omega, by go_num, HN1, HB1.out, HX0.out, HX1.out⟩
          case measure => simp [intOf]; omega
    · exfalso
      have e := HN.out
      rw [List.take_of_length_le (by omega), HY.out] at e
      cases e
set_option maxHeartbeats 4000000 in
theorem find_pair_none (v : Value) (l : List Pa) (r : Int) (w : World) (hl : l.length ≤ maxLen) (h : Lst w 4 encPa v l) (hy : l.find? (fun x => x.r == r) = none) :
    Calls Tryz.prog 107 #[.agg #[v, .func (.func 102) #[] #[]], .int .i32 r] w fun e w' => e = .returned (.tuple #[.agg #[Value.int IntKind.i32 0, Value.int IntKind.i32 0, Value.int IntKind.i32 0, Value.bool false], .bool false]) ∧ Below w.heap.size w w' := by
  unfold maxLen at hl
  obtain ⟨p, cap, rfl, hn, hc⟩ := h
  have HC := Lib.hid hc
  have HY := Lib.hid hy
  clear hc hy
  go_enter Tryz.func107, Tryz.ntmps107
  go_wp2
  have hH0 := (Has.new w (Obj.cells #[Value.slice p l.length cap, Value.func (Fn.func 102) #[] #[]] 121)).alloc (Obj.cells #[Value.int IntKind.i32 0, Value.int IntKind.i32 0, Value.int IntKind.i32 0, Value.bool false] 52)
  have hH1 := Has.new (w.alloc (Obj.cells #[Value.slice p l.length cap, Value.func (Fn.func 102) #[] #[]] 121)) (Obj.cells #[Value.int IntKind.i32 0, Value.int IntKind.i32 0, Value.int IntKind.i32 0, Value.bool false] 52)
  have hbW := (bnew w (Obj.cells #[Value.slice p l.length cap, Value.func (Fn.func 102) #[] #[]] 121)).alloc (by simp) (Obj.cells #[Value.int IntKind.i32 0, Value.int IntKind.i32 0, Value.int IntKind.i32 0, Value.bool false] 52)
  rw [World.size_alloc] at hH1
  go_loopw [14] (fun i wr => ∃ k : Nat, k ≤ l.length ∧ i = .int .i64 k ∧ Below w.heap.size w wr ∧ Has wr w.heap.size (Obj.cells #[Value.slice p l.length cap, Value.func (Fn.func 102) #[] #[]] 121) ∧ Has wr (w.heap.size + 1) (Obj.cells #[Value.int IntKind.i32 0, Value.int IntKind.i32 0, Value.int IntKind.i32 0, Value.bool false] 52)) (fun i _ => l.length - (intOf i).toNat)
  case atStart => exact ⟨0, Nat.zero_le _, rfl, hbW, hH0, hH1⟩
  case round =>
    obtain ⟨k, hk, rfl, hB, h0, h1⟩ := hrel
    clear hH0 hH1 hbW
    have hsz := h1.lt
    have hsy := h0.lt
    have r0 : wr.cell? ⟨w.heap.size, 0, none⟩ = some (Value.slice p l.length cap) := h0.cell 0 rfl
    have r1 : wr.cell? ⟨w.heap.size, 1, none⟩ = some (Value.func (Fn.func 102) #[] #[]) := h0.cell 1 rfl
    have d0 : wr.cell? ⟨w.heap.size + 1, 0, none⟩ = some (Value.int IntKind.i32 0) := h1.cell 0 rfl
    have f0 := h1.free 0
    have d1 : wr.cell? ⟨w.heap.size + 1, 1, none⟩ = some (Value.int IntKind.i32 0) := h1.cell 1 rfl
    have f1 := h1.free 1
    have d2 : wr.cell? ⟨w.heap.size + 1, 2, none⟩ = some (Value.int IntKind.i32 0) := h1.cell 2 rfl
    have f2 := h1.free 2
    have d3 : wr.cell? ⟨w.heap.size + 1, 3, none⟩ = some (Value.bool false) := h1.cell 3 rfl
    have f3 := h1.free 3
    by_cases hlt : k < l.length
    · obtain ⟨g, o, rfl, hg, hx⟩ := HC.out k l[k] (List.getElem?_eq_getElem hlt)
      have c0 := (hB.cell (p := ⟨g, o + k * 4, none⟩) hg).trans (hx 0 _ rfl)
      have c1 := (hB.cell (p := ⟨g, o + k * 4 + 1, none⟩) hg).trans (hx 1 _ rfl)
      have c2 := (hB.cell (p := ⟨g, o + k * 4 + 2, none⟩) hg).trans (hx 2 _ rfl)
      have c3 := (hB.cell (p := ⟨g, o + k * 4 + 3, none⟩) hg).trans (hx 3 _ rfl)
      obtain ⟨ek, hek⟩ : ∃ x, x = l[k] := ⟨_, rfl⟩
      rw [← hek] at c0 c1 c2 c3
      have HK := Lib.hid hek
      have HB := Lib.hid hB
      have H0 := Lib.hid h0
      have H1 := Lib.hid h1
      clear hx hek hB h0 h1
      go_wp2_with fail
      refine (ends_pair _ _).mono ?_
      rintro e w1 ⟨rfl, hb1⟩
      have hc1 : ∀ b o, b < (wr.alloc (Obj.cells #[Value.int IntKind.i32 ek.r, Value.int IntKind.i32 ek.a, Value.int IntKind.i32 ek.b, Value.bool ek.one] 52)).heap.size → w1.cell? ⟨b, o, none⟩ = (wr.alloc (Obj.cells #[Value.int IntKind.i32 ek.r, Value.int IntKind.i32 ek.a, Value.int IntKind.i32 ek.b, Value.bool ek.one] 52)).cell? ⟨b, o, none⟩ := fun b o h => hb1.cell (p := ⟨b, o, none⟩) h
      have hf1 : ∀ b o, b < (wr.alloc (Obj.cells #[Value.int IntKind.i32 ek.r, Value.int IntKind.i32 ek.a, Value.int IntKind.i32 ek.b, Value.bool ek.one] 52)).heap.size → w1.frozen? ⟨b, o, none⟩ = (wr.alloc (Obj.cells #[Value.int IntKind.i32 ek.r, Value.int IntKind.i32 ek.a, Value.int IntKind.i32 ek.b, Value.bool ek.one] 52)).frozen? ⟨b, o, none⟩ := fun b o h => hb1.frozen (p := ⟨b, o, none⟩) h
      have hz1 : wr.heap.size < w1.heap.size := by have := hb1.size; simp at this; omega
      have HB1 : Hid (Below w.heap.size w w1) := Lib.hid ((HB.out.alloc (by omega) _).trans (hb1.mono (by simp; omega)))
      have HX0 : Hid (Has w1 w.heap.size (Obj.cells #[Value.slice (some ⟨g, o, none⟩) l.length cap, Value.func (Fn.func 102) #[] #[]] 121)) := Lib.hid ((H0.out.alloc _).to hb1)
      have HX1 : Hid (Has w1 (w.heap.size + 1) (Obj.cells #[Value.int IntKind.i32 0, Value.int IntKind.i32 0, Value.int IntKind.i32 0, Value.bool false] 52)) := Lib.hid ((H1.out.alloc _).to hb1)
      clear hb1
      have he : ¬ ek.r = r := by
        have := List.find?_eq_none.1 HY.out l[k] (List.getElem_mem hlt)
        rw [← HK.out] at this; simpa using this
      by_cases hle : ek.r ≤ r
      · have e1 : decide (ek.r ≤ r) = true := decide_eq_true (by omega)
        have e2 : decide (r ≤ ek.r) = false := decide_eq_false (by omega)
        go_wp2
        go_roundw
        case rel => exact ⟨k + 1, by omega, by go_num, HB1.out, HX0.out, HX1.out⟩
        case measure => simp [intOf]; omega
      · have e1 : decide (ek.r ≤ r) = false := decide_eq_false (by omega)
        go_wp2
        go_roundw
        case rel => exact ⟨k + 1, by omega, by go_num, HB1.out, HX0.out, HX1.out⟩
        case measure => simp [intOf]; omega
    · have HB := Lib.hid hB
      clear hB h0 h1
      go_wp2
      refine bodyPost_ret (v := .tuple #[.agg #[Value.int IntKind.i32 0, Value.int IntKind.i32 0, Value.int IntKind.i32 0, Value.bool false], .bool false]) (by simp [results, Tryz.results107, go_sem, d0, d1, d2, d3, hsz]) rfl ⟨rfl, ?_⟩
      exact ((((HB.out.setCell (p := ⟨_, 0, none⟩) (by simp) _).setCell (p := ⟨_, 1, none⟩) (by simp) _).setCell (p := ⟨_, 2, none⟩) (by simp) _).setCell (p := ⟨_, 3, none⟩) (by simp) _).alloc (by simp; omega) _
end Go.Proofs.YtbclodbneonipaaGreat
namespace Go.Proofs.YtbclodbneonipaaGreat
open Go.RowKit N
/-- the runes l lie in w where the slice v says -/
def RunesAt (w : World) (v : Value) (l : List Int) : Prop :=
  ∃ (p : Option Addr) (cap : Nat), v = .slice p l.length cap ∧ ∀ k x, l[k]? = some x → ∃ g o, p = some ⟨g, o, none⟩ ∧ g < w.heap.size ∧ w.cell? ⟨g, o + k, none⟩ = some (.int .i32 x)
theorem RunesAt.below {w w' : World} {v : Value} {l : List Int} (h : RunesAt w v l) (hb : Below w.heap.size w w') : RunesAt w' v l := by
  obtain ⟨p, cap, hv, hc⟩ := h
  refine ⟨p, cap, hv, fun k x hk => ?_⟩
  obtain ⟨g, o, hp, hg, hx⟩ := hc k x hk
  exact ⟨g, o, hp, Nat.lt_of_lt_of_le hg hb.size, (hb.cell (p := ⟨g, o + k, none⟩) hg).trans hx⟩
/-- the table q lies in w -/
structure TabAt (w : World) (q : TQ) : Prop where
  s : Lst w 4 encSp q.v0 q.T.spans
  c : Lst w 2 encCl q.v1 q.T.classes
  p : Lst w 4 encPa q.v2 q.T.pairs
  y : Lst w 3 encSg q.v3 q.T.ways
  j : Lst w 3 encSg q.v4 q.T.joins
  m : ∀ x ∈ q.T.spans, RunesAt w x.mv x.map
theorem TabAt.below {w w' : World} {q : TQ} (h : TabAt w q) (hb : Below w.heap.size w w') : TabAt w' q := ⟨h.s.below hb, h.c.below hb, h.p.below hb, h.y.below hb, h.j.below hb, fun x hx => (h.m x hx).below hb⟩
/-- a table's numbers are those of their kinds, its lists no longer than memory -/
structure Fit (T : Tab) : Prop where
  s : T.spans.length ≤ 35184372088320
  c : T.classes.length ≤ 35184372088320
  p : T.pairs.length ≤ 35184372088320
  y : T.ways.length ≤ 35184372088320
  j : T.joins.length ≤ 35184372088320
  cb : ∀ x ∈ T.classes, 0 ≤ x.c ∧ x.c ≤ 255
  sb : ∀ x ∈ T.spans, 0 ≤ x.st ∧ x.st ≤ 255
  yb : ∀ x ∈ T.ways, 0 ≤ x.k ∧ x.k ≤ 255
  jb : ∀ x ∈ T.joins, 0 ≤ x.k ∧ x.k ≤ 255
theorem Fit.cls {T : Tab} (h : Fit T) (r : Int) : 0 ≤ N.cls T r ∧ N.cls T r ≤ 255 := by
  unfold N.cls clsL
  split
  · rename_i x hx; exact h.cb x (List.mem_of_find?_eq_some hx)
  · exact ⟨by decide, by decide⟩
set_option maxHeartbeats 1000000 in
theorem class_is (q : TQ) (r c : Int) (hc : N.cls q.T r = c) (w : World) (h : TabAt w q) (hf : Fit q.T) : Calls Tryz.prog 20 #[q.v, .int .i32 r] w fun e w' => e = .returned (.int .u8 c) ∧ Below w.heap.size w w' := by
  have hl : q.T.classes.length ≤ maxLen := by have := hf.c; unfold maxLen; omega
  unfold N.cls clsL at hc
  cases hy : q.T.classes.find? (fun x => x.r == r) with
  | some y =>
    rw [hy] at hc
    simp only at hc
    subst hc
    have HA := Lib.hid h
    have HY := Lib.hid hy
    have HL := Lib.hid hl
    clear h hf hy hl
    go_enter Tryz.func20, Tryz.ntmps20
    go_wp2_with fail
    refine (classes_any q _).mono ?_
    rintro e w1 ⟨rfl, hb1⟩
    have hb2 := (bnew w (Obj.cells q.cs 28)).trans (hb1.mono (by simp))
    go_wp2_with fail
    refine (find_class_some _ q.T.classes r _ HL.out (HA.out.c.below hb2) y HY.out).mono ?_
    rintro e w2 ⟨rfl, hb3⟩
    go_wp2
    go_ret
    exact ⟨rfl, (bel2 hb2 hb3).alloc (bel2 hb2 hb3).size _⟩
  | none =>
    rw [hy] at hc
    simp only at hc
    subst hc
    have HA := Lib.hid h
    have HY := Lib.hid hy
    have HL := Lib.hid hl
    clear h hf hy hl
    go_enter Tryz.func20, Tryz.ntmps20
    go_wp2_with fail
    refine (classes_any q _).mono ?_
    rintro e w1 ⟨rfl, hb1⟩
    have hb2 := (bnew w (Obj.cells q.cs 28)).trans (hb1.mono (by simp))
    go_wp2_with fail
    refine (find_class_none _ q.T.classes r _ HL.out (HA.out.c.below hb2) HY.out).mono ?_
    rintro e w2 ⟨rfl, hb3⟩
    go_wp2
    go_ret
    exact ⟨rfl, (bel2 hb2 hb3).alloc (bel2 hb2 hb3).size _⟩
set_option maxHeartbeats 1000000 in
theorem pair_some (q : TQ) (r : Int) (y : Pa) (hy : prL q.T.pairs r = some y) (w : World) (h : TabAt w q) (hf : Fit q.T) : Calls Tryz.prog 85 #[q.v, .int .i32 r] w fun e w' => e = .returned (.tuple #[.agg #[.int .i32 y.r, .int .i32 y.a, .int .i32 y.b, .bool y.one], .bool true]) ∧ Below w.heap.size w w' := by
  have hl : q.T.pairs.length ≤ maxLen := by have := hf.p; unfold maxLen; omega
  unfold prL at hy
  have HA := Lib.hid h
  have HY := Lib.hid hy
  have HL := Lib.hid hl
  clear h hf hy hl
  go_enter Tryz.func85, Tryz.ntmps85
  go_wp2_with fail
  have hH := Has.new (w.alloc (Obj.cells q.cs 28)) (Obj.cells #[Value.int IntKind.i32 0, Value.int IntKind.i32 0, Value.int IntKind.i32 0, Value.bool false] 52)
  rw [World.size_alloc] at hH
  refine (pairs_any q _).mono ?_
  rintro e w1 ⟨rfl, hb1⟩
  have hb2 := ((bnew w (Obj.cells q.cs 28)).alloc (by simp) (Obj.cells #[Value.int IntKind.i32 0, Value.int IntKind.i32 0, Value.int IntKind.i32 0, Value.bool false] 52)).trans (hb1.mono (by simp; omega))
  have hH1 := hH.to hb1
  go_wp2_with fail
  refine (find_pair_some _ q.T.pairs r _ HL.out (HA.out.p.below hb2) y HY.out).mono ?_
  rintro e w2 ⟨rfl, hb3⟩
  have hH2 := hH1.to hb3
  have d0 : w2.cell? ⟨w.heap.size + 1, 0, none⟩ = some (.int .i32 0) := hH2.cell 0 rfl
  have d1 : w2.cell? ⟨w.heap.size + 1, 1, none⟩ = some (.int .i32 0) := hH2.cell 1 rfl
  have d2 : w2.cell? ⟨w.heap.size + 1, 2, none⟩ = some (.int .i32 0) := hH2.cell 2 rfl
  have d3 : w2.cell? ⟨w.heap.size + 1, 3, none⟩ = some (.bool false) := hH2.cell 3 rfl
  have f0 := hH2.free 0
  have f1 := hH2.free 1
  have f2 := hH2.free 2
  have f3 := hH2.free 3
  have HB := Lib.hid (bel2 hb2 hb3)
  clear hH hH1 hH2 hb1 hb2 hb3
  go_wp2
  refine bodyPost_ret (v := .tuple #[.agg #[.int .i32 y.r, .int .i32 y.a, .int .i32 y.b, .bool y.one], .bool true]) (by simp [results, Tryz.results85, go_sem, d0, d1, d2, d3]) rfl ⟨rfl, ?_⟩
  exact (((HB.out.setCell (p := ⟨_, 0, none⟩) (by simp) _).setCell (p := ⟨_, 1, none⟩) (by simp) _).setCell (p := ⟨_, 2, none⟩) (by simp) _).setCell (p := ⟨_, 3, none⟩) (by simp) _
set_option maxHeartbeats 1000000 in
theorem pair_none (q : TQ) (r : Int) (hy : prL q.T.pairs r = none) (w : World) (h : TabAt w q) (hf : Fit q.T) : Calls Tryz.prog 85 #[q.v, .int .i32 r] w fun e w' => e = .returned (.tuple #[.agg #[.int .i32 0, .int .i32 0, .int .i32 0, .bool false], .bool false]) ∧ Below w.heap.size w w' := by
  have hl : q.T.pairs.length ≤ maxLen := by have := hf.p; unfold maxLen; omega
  unfold prL at hy
  have HA := Lib.hid h
  have HY := Lib.hid hy
  have HL := Lib.hid hl
  clear h hf hy hl
  go_enter Tryz.func85, Tryz.ntmps85
  go_wp2_with fail
  have hH := Has.new (w.alloc (Obj.cells q.cs 28)) (Obj.cells #[Value.int IntKind.i32 0, Value.int IntKind.i32 0, Value.int IntKind.i32 0, Value.bool false] 52)
  rw [World.size_alloc] at hH
  refine (pairs_any q _).mono ?_
  rintro e w1 ⟨rfl, hb1⟩
  have hb2 := ((bnew w (Obj.cells q.cs 28)).alloc (by simp) (Obj.cells #[Value.int IntKind.i32 0, Value.int IntKind.i32 0, Value.int IntKind.i32 0, Value.bool false] 52)).trans (hb1.mono (by simp; omega))
  have hH1 := hH.to hb1
  go_wp2_with fail
  refine (find_pair_none _ q.T.pairs r _ HL.out (HA.out.p.below hb2) HY.out).mono ?_
  rintro e w2 ⟨rfl, hb3⟩
  have hH2 := hH1.to hb3
  have d0 : w2.cell? ⟨w.heap.size + 1, 0, none⟩ = some (.int .i32 0) := hH2.cell 0 rfl
  have d1 : w2.cell? ⟨w.heap.size + 1, 1, none⟩ = some (.int .i32 0) := hH2.cell 1 rfl
  have d2 : w2.cell? ⟨w.heap.size + 1, 2, none⟩ = some (.int .i32 0) := hH2.cell 2 rfl
  have d3 : w2.cell? ⟨w.heap.size + 1, 3, none⟩ = some (.bool false) := hH2.cell 3 rfl
  have f0 := hH2.free 0
  have f1 := hH2.free 1
  have f2 := hH2.free 2
  have f3 := hH2.free 3
  have HB := Lib.hid (bel2 hb2 hb3)
  clear hH hH1 hH2 hb1 hb2 hb3
  go_wp2
  refine bodyPost_ret (v := .tuple #[.agg #[.int .i32 0, .int .i32 0, .int .i32 0, .bool false], .bool false]) (by simp [results, Tryz.results85, go_sem, d0, d1, d2, d3]) rfl ⟨rfl, ?_⟩
  exact (((HB.out.setCell (p := ⟨_, 0, none⟩) (by simp) _).setCell (p := ⟨_, 1, none⟩) (by simp) _).setCell (p := ⟨_, 2, none⟩) (by simp) _).setCell (p := ⟨_, 3, none⟩) (by simp) _
/-! tables.Put -/
def putB (a b : Int) (x : Pa) : Bool := !x.one && (x.a == a && x.b == b)
set_option maxHeartbeats 4000000 in
theorem put_is (q : TQ) (a b : Int) (o : Option Int) (ho : ptL q.T.pairs a b = o) (w : World) (h : TabAt w q) (hf : Fit q.T) : Calls Tryz.prog 90 #[q.v, .int .i32 a, .int .i32 b] w fun e w' => e = .returned (.tuple #[.int .i32 (o.getD 0), .bool o.isSome]) ∧ Below w.heap.size w w' := by
  have hl : q.T.pairs.length ≤ maxLen := by have := hf.p; unfold maxLen; omega
  unfold maxLen at hl
  obtain ⟨p, cap, hpv, hn, hc⟩ := h.p
  simp only [TQ.v2, Value.slice.injEq] at hpv
  obtain ⟨rfl, _, rfl⟩ := hpv
  have HC := Lib.hid hc
  clear hc hn h hf
  unfold ptL at ho
  by_cases hb0 : b = 0
  · rw [if_pos hb0] at ho
    subst ho hb0
    go_enter Tryz.func90, Tryz.ntmps90
    go_wp2
    go_ret2
    exact ⟨rfl, bnew _ _⟩
  · rw [if_neg hb0] at ho
    have HO : Hid ((q.T.pairs.find? (putB a b)).map (·.r) = o) := Lib.hid ho
    have hbz : (b == 0) = false := by simpa using hb0
    clear ho hb0
    go_enter Tryz.func90, Tryz.ntmps90
    go_wp2
    have hH0 := Has.new w (Obj.cells q.cs 28)
    have hbW := bnew w (Obj.cells q.cs 28)
    go_loopw [15] (fun i wr => ∃ k : Nat, k ≤ q.T.pairs.length ∧ i = .int .i64 k ∧ Hid ((q.T.pairs.take k).find? (putB a b) = none) ∧ Below w.heap.size w wr) (fun i _ => q.T.pairs.length - (intOf i).toNat)
    case atStart => exact ⟨0, Nat.zero_le _, rfl, Lib.hid rfl, hbW⟩
    case round =>
      obtain ⟨k, hk, rfl, HN, hB⟩ := hrel
      clear hH0 hbW
      by_cases hlt : k < q.T.pairs.length
      · obtain ⟨g, of, hp, hg, hx⟩ := HC.out k q.T.pairs[k] (List.getElem?_eq_getElem hlt)
        have c0 := (hB.cell (p := ⟨g, of + k * 4, none⟩) hg).trans (hx 0 _ rfl)
        have c1 := (hB.cell (p := ⟨g, of + k * 4 + 1, none⟩) hg).trans (hx 1 _ rfl)
        have c2 := (hB.cell (p := ⟨g, of + k * 4 + 2, none⟩) hg).trans (hx 2 _ rfl)
        have c3 := (hB.cell (p := ⟨g, of + k * 4 + 3, none⟩) hg).trans (hx 3 _ rfl)
        obtain ⟨ek, hek⟩ : ∃ x, x = q.T.pairs[k] := ⟨_, rfl⟩
        rw [← hek] at c0 c1 c2 c3
        have HK := Lib.hid hek
        have HB := Lib.hid hB
        clear hx hek hB
        have step : putB a b ek = false → Hid ((q.T.pairs.take (k + 1)).find? (putB a b) = none) := fun hf => Lib.hid (find_none hlt HN.out (by rw [← HK.out]; exact hf))
        have STEP := Lib.hid step
        clear step
        by_cases h1 : ek.one = true
        · have HS := STEP.out (by simp [putB, h1])
          go_wp2
          go_roundw
          case rel => exact ⟨k + 1, by omega, by go_num, HS, HB.out.alloc HB.out.size _⟩
          case measure => simp [intOf]; omega
        · have h1' : ek.one = false := by simpa using h1
          clear h1
          by_cases h2 : ek.a = a
          · have e2 : (ek.a == a) = true := by simpa using h2
            by_cases h3 : ek.b = b
            · have e3 : (ek.b == b) = true := by simpa using h3
              have HE : Hid (o = some ek.r) := Lib.hid (by
                have := find_here (f := putB a b) hlt HN.out (by rw [← HK.out]; simp [putB, h1', h2, h3])
                rw [← HO.out, this, ← HK.out]; rfl)
              clear h2 h3
              go_wp2
              go_ret2
              exact ⟨by rw [HE.out]; rfl, HB.out.alloc HB.out.size _⟩
            · have e3 : (ek.b == b) = false := by simpa using h3
              have HS := STEP.out (by simp [putB, h1', h3])
              clear h2 h3
              go_wp2
              go_roundw
              case rel => exact ⟨k + 1, by omega, by go_num, HS, HB.out.alloc HB.out.size _⟩
              case measure => simp [intOf]; omega
          · have e2 : (ek.a == a) = false := by simpa using h2
            have HS := STEP.out (by simp [putB, h1', h2])
            clear h2
            go_wp2
            go_roundw
            case rel => exact ⟨k + 1, by omega, by go_num, HS, HB.out.alloc HB.out.size _⟩
            case measure => simp [intOf]; omega
      · have HE : Hid (o = none) := Lib.hid (by
          have := HN.out
          rw [List.take_of_length_le (by omega)] at this
          rw [← HO.out, this]; rfl)
        go_wp2
        go_ret2
        exact ⟨by rw [HE.out]; rfl, hB⟩
end Go.Proofs.YtbclodbneonipaaGreat
