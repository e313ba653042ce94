import Derived.Test.YtbclodbneonipaaGreatNMM
namespace Go.Proofs.YtbclodbneonipaaGreat
open Go.RowKit N
set_option maxHeartbeats 1000000 in
theorem ends_class_any (a b : Value) (w : World) : Calls Tryz.prog 53 #[.agg #[a, b]] w fun e w' => e = .returned (.tuple #[a, a]) ∧ Below w.heap.size w w' := by
  go_enter Tryz.func53, Tryz.ntmps53
  go_wp2
  go_quiet (fail)
  go_wp2
  go_ret2
  exact ⟨rfl, below_dn (bnew _ _) nq⟩
theorem ends_class (x : Cl) (w : World) : Calls Tryz.prog 53 #[.agg #[.int .i32 x.r, .int .u8 x.c]] w fun e w' => e = .returned (.tuple #[.int .i32 x.r, .int .i32 x.r]) ∧ Below w.heap.size w w' := ends_class_any _ _ w
set_option maxHeartbeats 1000000 in
theorem ends_pair_any (a b c d : Value) (w : World) : Calls Tryz.prog 102 #[.agg #[a, b, c, d]] w fun e w' => e = .returned (.tuple #[a, a]) ∧ Below w.heap.size w w' := by
  go_enter Tryz.func102, Tryz.ntmps102
  go_wp2
  go_quiet (fail)
  go_wp2
  go_ret2
  exact ⟨rfl, below_dn (bnew _ _) nq⟩
theorem ends_pair (x : Pa) (w : World) : Calls Tryz.prog 102 #[.agg #[.int .i32 x.r, .int .i32 x.a, .int .i32 x.b, .bool x.one]] w fun e w' => e = .returned (.tuple #[.int .i32 x.r, .int .i32 x.r]) ∧ Below w.heap.size w w' := ends_pair_any _ _ _ _ w
set_option maxHeartbeats 1000000 in
theorem ends_status_any (a b c d : Value) (w : World) : Calls Tryz.prog 101 #[.agg #[a, b, c, d]] w fun e w' => e = .returned (.tuple #[a, b]) ∧ Below w.heap.size w w' := by
  go_enter Tryz.func101, Tryz.ntmps101
  go_wp2
  go_quiet (fail)
  go_wp2
  go_ret2
  exact ⟨rfl, below_dn (bnew _ _) nq⟩
set_option maxHeartbeats 1000000 in
theorem ends_way_any (a b c : Value) (w : World) : Calls Tryz.prog 103 #[.agg #[a, b, c]] w fun e w' => e = .returned (.tuple #[a, b]) ∧ Below w.heap.size w w' := by
  go_enter Tryz.func103, Tryz.ntmps103
  go_wp2
  go_quiet (fail)
  go_wp2
  go_ret2
  exact ⟨rfl, below_dn (bnew _ _) nq⟩
set_option maxHeartbeats 1000000 in
theorem ends_join_any (a b c : Value) (w : World) : Calls Tryz.prog 104 #[.agg #[a, b, c]] w fun e w' => e = .returned (.tuple #[a, b]) ∧ Below w.heap.size w w' := by
  go_enter Tryz.func104, Tryz.ntmps104
  go_wp2
  go_quiet (fail)
  go_wp2
  go_ret2
  exact ⟨rfl, below_dn (bnew _ _) nq⟩
set_option maxHeartbeats 1000000 in
theorem classes_any (q : TQ) (w : World) : Calls Tryz.prog 36 #[q.v] w fun e w' => e = .returned (.agg #[q.v1, .func (.func 53) #[] #[]]) ∧ Below w.heap.size w w' := by
  unfold TQ.v TQ.v1
  go_enter Tryz.func36, Tryz.ntmps36
  go_wp2
  exact bodyPost_ret (v := .agg #[q.v1, .func (.func 53) #[] #[]]) (by simp [results, Tryz.results36, go_sem]) rfl ⟨rfl, (bnew w _).alloc (by simp) _⟩
set_option maxHeartbeats 1000000 in
theorem statuses_any (q : TQ) (w : World) : Calls Tryz.prog 72 #[q.v] w fun e w' => e = .returned (.agg #[q.v0, .func (.func 101) #[] #[]]) ∧ Below w.heap.size w w' := by
  unfold TQ.v TQ.v0
  go_enter Tryz.func72, Tryz.ntmps72
  go_wp2
  exact bodyPost_ret (v := .agg #[q.v0, .func (.func 101) #[] #[]]) (by simp [results, Tryz.results72, go_sem]) rfl ⟨rfl, (bnew w _).alloc (by simp) _⟩
set_option maxHeartbeats 1000000 in
theorem pairs_any (q : TQ) (w : World) : Calls Tryz.prog 75 #[q.v] w fun e w' => e = .returned (.agg #[q.v2, .func (.func 102) #[] #[]]) ∧ Below w.heap.size w w' := by
  unfold TQ.v TQ.v2
  go_enter Tryz.func75, Tryz.ntmps75
  go_wp2
  exact bodyPost_ret (v := .agg #[q.v2, .func (.func 102) #[] #[]]) (by simp [results, Tryz.results75, go_sem]) rfl ⟨rfl, (bnew w _).alloc (by simp) _⟩
set_option maxHeartbeats 1000000 in
theorem ways_any (q : TQ) (w : World) : Calls Tryz.prog 77 #[q.v] w fun e w' => e = .returned (.agg #[q.v3, .func (.func 103) #[] #[]]) ∧ Below w.heap.size w w' := by
  unfold TQ.v TQ.v3
  go_enter Tryz.func77, Tryz.ntmps77
  go_wp2
  exact bodyPost_ret (v := .agg #[q.v3, .func (.func 103) #[] #[]]) (by simp [results, Tryz.results77, go_sem]) rfl ⟨rfl, (bnew w _).alloc (by simp) _⟩
set_option maxHeartbeats 1000000 in
theorem joins_any (q : TQ) (w : World) : Calls Tryz.prog 79 #[q.v] w fun e w' => e = .returned (.agg #[q.v4, .func (.func 104) #[] #[]]) ∧ Below w.heap.size w w' := by
  unfold TQ.v TQ.v4
  go_enter Tryz.func79, Tryz.ntmps79
  go_wp2
  exact bodyPost_ret (v := .agg #[q.v4, .func (.func 104) #[] #[]]) (by simp [results, Tryz.results79, go_sem]) rfl ⟨rfl, (bnew w _).alloc (by simp) _⟩
end Go.Proofs.YtbclodbneonipaaGreat
namespace Go.Proofs.YtbclodbneonipaaGreat
open Go.RowKit N
set_option maxHeartbeats 4000000 in
theorem find_class_some (v : Value) (l : List Cl) (r : Int) (w : World) (hl : l.length ≤ maxLen) (h : Lst w 2 encCl v l) (y : Cl) (hy : l.find? (fun x => x.r == r) = some y) :
    Calls Tryz.prog 35 #[.agg #[v, .func (.func 53) #[] #[]], .int .i32 r] w fun e w' => e = .returned (.tuple #[.agg #[Value.int IntKind.i32 y.r, Value.int IntKind.u8 y.c], .bool true]) ∧ Below w.heap.size w w' := by
  unfold maxLen at hl
  obtain ⟨p, cap, rfl, hn, hc⟩ := h
  have HC := Lib.hid hc
  have HY := Lib.hid hy
  clear hc hy
  go_enter Tryz.func35, Tryz.ntmps35
  go_wp2
  have hH0 := (Has.new w (Obj.cells #[Value.slice p l.length cap, Value.func (Fn.func 53) #[] #[]] 70)).alloc (Obj.cells #[Value.int IntKind.i32 0, Value.int IntKind.u8 0] 50)
  have hH1 := Has.new (w.alloc (Obj.cells #[Value.slice p l.length cap, Value.func (Fn.func 53) #[] #[]] 70)) (Obj.cells #[Value.int IntKind.i32 0, Value.int IntKind.u8 0] 50)
  have hbW := (bnew w (Obj.cells #[Value.slice p l.length cap, Value.func (Fn.func 53) #[] #[]] 70)).alloc (by simp) (Obj.cells #[Value.int IntKind.i32 0, Value.int IntKind.u8 0] 50)
  rw [World.size_alloc] at hH1
  go_loopw [14] (fun i wr => ∃ k : Nat, k ≤ l.length ∧ i = .int .i64 k ∧ Hid ((l.take k).find? (fun x => x.r == r) = none) ∧ Below w.heap.size w wr ∧ Has wr w.heap.size (Obj.cells #[Value.slice p l.length cap, Value.func (Fn.func 53) #[] #[]] 70) ∧ Has wr (w.heap.size + 1) (Obj.cells #[Value.int IntKind.i32 0, Value.int IntKind.u8 0] 50)) (fun i _ => l.length - (intOf i).toNat)
  case atStart => exact ⟨0, Nat.zero_le _, rfl, Lib.hid rfl, hbW, hH0, hH1⟩
  case round =>
    obtain ⟨k, hk, rfl, HN, hB, h0, h1⟩ := hrel
    clear hH0 hH1 hbW
    have hsz := h1.lt
    have hsy := h0.lt
    have r0 : wr.cell? ⟨w.heap.size, 0, none⟩ = some (Value.slice p l.length cap) := h0.cell 0 rfl
    have r1 : wr.cell? ⟨w.heap.size, 1, none⟩ = some (Value.func (Fn.func 53) #[] #[]) := h0.cell 1 rfl
    have d0 : wr.cell? ⟨w.heap.size + 1, 0, none⟩ = some (Value.int IntKind.i32 0) := h1.cell 0 rfl
    have f0 := h1.free 0
    have d1 : wr.cell? ⟨w.heap.size + 1, 1, none⟩ = some (Value.int IntKind.u8 0) := h1.cell 1 rfl
    have f1 := h1.free 1
    by_cases hlt : k < l.length
    · obtain ⟨g, o, rfl, hg, hx⟩ := HC.out k l[k] (List.getElem?_eq_getElem hlt)
      have c0 := (hB.cell (p := ⟨g, o + k * 2, none⟩) hg).trans (hx 0 _ rfl)
      have c1 := (hB.cell (p := ⟨g, o + k * 2 + 1, none⟩) hg).trans (hx 1 _ rfl)
      obtain ⟨ek, hek⟩ : ∃ x, x = l[k] := ⟨_, rfl⟩
      rw [← hek] at c0 c1
      have HK := Lib.hid hek
      have HB := Lib.hid hB
      have H0 := Lib.hid h0
      have H1 := Lib.hid h1
      clear hx hek hB h0 h1
      go_wp2_with fail
      refine (ends_class _ _).mono ?_
      rintro e w1 ⟨rfl, hb1⟩
      have hc1 : ∀ b o, b < (wr.alloc (Obj.cells #[Value.int IntKind.i32 ek.r, Value.int IntKind.u8 ek.c] 50)).heap.size → w1.cell? ⟨b, o, none⟩ = (wr.alloc (Obj.cells #[Value.int IntKind.i32 ek.r, Value.int IntKind.u8 ek.c] 50)).cell? ⟨b, o, none⟩ := fun b o h => hb1.cell (p := ⟨b, o, none⟩) h
      have hf1 : ∀ b o, b < (wr.alloc (Obj.cells #[Value.int IntKind.i32 ek.r, Value.int IntKind.u8 ek.c] 50)).heap.size → w1.frozen? ⟨b, o, none⟩ = (wr.alloc (Obj.cells #[Value.int IntKind.i32 ek.r, Value.int IntKind.u8 ek.c] 50)).frozen? ⟨b, o, none⟩ := fun b o h => hb1.frozen (p := ⟨b, o, none⟩) h
      have hz1 : wr.heap.size < w1.heap.size := by have := hb1.size; simp at this; omega
      have HB1 : Hid (Below w.heap.size w w1) := Lib.hid ((HB.out.alloc (by omega) _).trans (hb1.mono (by simp; omega)))
      have HX0 : Hid (Has w1 w.heap.size (Obj.cells #[Value.slice (some ⟨g, o, none⟩) l.length cap, Value.func (Fn.func 53) #[] #[]] 70)) := Lib.hid ((H0.out.alloc _).to hb1)
      have HX1 : Hid (Has w1 (w.heap.size + 1) (Obj.cells #[Value.int IntKind.i32 0, Value.int IntKind.u8 0] 50)) := Lib.hid ((H1.out.alloc _).to hb1)
      clear hb1
      have x0 : w1.cell? ⟨w.heap.size + 1, 0, none⟩ = some (Value.int IntKind.i32 0) := HX1.out.cell 0 rfl
      have y0 := HX1.out.free 0
      have x1 : w1.cell? ⟨w.heap.size + 1, 1, none⟩ = some (Value.int IntKind.u8 0) := HX1.out.cell 1 rfl
      have y1 := HX1.out.free 1
      by_cases he : ek.r = r
      · have e1 : decide (ek.r ≤ r) = true := decide_eq_true (by omega)
        have e2 : decide (r ≤ ek.r) = true := decide_eq_true (by omega)
        have HE : Hid (y = ek) := Lib.hid (by
          have := find_here (f := fun x => x.r == r) hlt HN.out (by rw [← HK.out]; simp [he])
          rw [HY.out] at this
          rw [HK.out]; exact Option.some.inj this)
        have HER := Lib.hid he
        clear he
        go_wp2
        refine bodyPost_ret (v := .tuple #[.agg #[Value.int IntKind.i32 ek.r, Value.int IntKind.u8 ek.c], .bool true]) (by simp [results, Tryz.results35, go_sem, x0, x1]) rfl ⟨by rw [HE.out], ?_⟩
        exact (HB1.out.setCell (p := ⟨_, 0, none⟩) (by simp) _).setCell (p := ⟨_, 1, none⟩) (by simp) _
      · have HN1 : Hid ((l.take (k + 1)).find? (fun x => x.r == r) = none) := Lib.hid (find_none hlt HN.out (by rw [← HK.out]; simpa using he))
        by_cases hle : ek.r ≤ r
        · have e1 : decide (ek.r ≤ r) = true := decide_eq_true (by omega)
          have e2 : decide (r ≤ ek.r) = false := decide_eq_false (by omega)
          go_wp2
          go_roundw
          case rel => exact ⟨k + 1, by omega, by go_num, HN1, HB1.out, HX0.out, HX1.out⟩
          case measure => simp [intOf]; omega
        · have e1 : decide (ek.r ≤ r) = false := decide_eq_false (by omega)
          go_wp2
          go_roundw
          case rel => exact ⟨k + 1, by omega, by go_num, HN1, HB1.out, HX0.out, HX1.out⟩
          case measure => simp [intOf]; omega
    · exfalso
      have e := HN.out
      rw [List.take_of_length_le (by omega), HY.out] at e
      cases e
set_option maxHeartbeats 4000000 in
theorem find_class_none (v : Value) (l : List Cl) (r : Int) (w : World) (hl : l.length ≤ maxLen) (h : Lst w 2 encCl v l) (hy : l.find? (fun x => x.r == r) = none) :
    Calls Tryz.prog 35 #[.agg #[v, .func (.func 53) #[] #[]], .int .i32 r] w fun e w' => e = .returned (.tuple #[.agg #[Value.int IntKind.i32 0, Value.int IntKind.u8 0], .bool false]) ∧ Below w.heap.size w w' := by
  unfold maxLen at hl
  obtain ⟨p, cap, rfl, hn, hc⟩ := h
  have HC := Lib.hid hc
  have HY := Lib.hid hy
  clear hc hy
  go_enter Tryz.func35, Tryz.ntmps35
  go_wp2
  have hH0 := (Has.new w (Obj.cells #[Value.slice p l.length cap, Value.func (Fn.func 53) #[] #[]] 70)).alloc (Obj.cells #[Value.int IntKind.i32 0, Value.int IntKind.u8 0] 50)
  have hH1 := Has.new (w.alloc (Obj.cells #[Value.slice p l.length cap, Value.func (Fn.func 53) #[] #[]] 70)) (Obj.cells #[Value.int IntKind.i32 0, Value.int IntKind.u8 0] 50)
  have hbW := (bnew w (Obj.cells #[Value.slice p l.length cap, Value.func (Fn.func 53) #[] #[]] 70)).alloc (by simp) (Obj.cells #[Value.int IntKind.i32 0, Value.int IntKind.u8 0] 50)
  rw [World.size_alloc] at hH1
  go_loopw [14] (fun i wr => ∃ k : Nat, k ≤ l.length ∧ i = .int .i64 k ∧ Below w.heap.size w wr ∧ Has wr w.heap.size (Obj.cells #[Value.slice p l.length cap, Value.func (Fn.func 53) #[] #[]] 70) ∧ Has wr (w.heap.size + 1) (Obj.cells #[Value.int IntKind.i32 0, Value.int IntKind.u8 0] 50)) (fun i _ => l.length - (intOf i).toNat)
  case atStart => exact ⟨0, Nat.zero_le _, rfl, hbW, hH0, hH1⟩
  case round =>
    obtain ⟨k, hk, rfl, hB, h0, h1⟩ := hrel
    clear hH0 hH1 hbW
    have hsz := h1.lt
    have hsy := h0.lt
    have r0 : wr.cell? ⟨w.heap.size, 0, none⟩ = some (Value.slice p l.length cap) := h0.cell 0 rfl
    have r1 : wr.cell? ⟨w.heap.size, 1, none⟩ = some (Value.func (Fn.func 53) #[] #[]) := h0.cell 1 rfl
    have d0 : wr.cell? ⟨w.heap.size + 1, 0, none⟩ = some (Value.int IntKind.i32 0) := h1.cell 0 rfl
    have f0 := h1.free 0
    have d1 : wr.cell? ⟨w.heap.size + 1, 1, none⟩ = some (Value.int IntKind.u8 0) := h1.cell 1 rfl
    have f1 := h1.free 1
    by_cases hlt : k < l.length
    · obtain ⟨g, o, rfl, hg, hx⟩ := HC.out k l[k] (List.getElem?_eq_getElem hlt)
      have c0 := (hB.cell (p := ⟨g, o + k * 2, none⟩) hg).trans (hx 0 _ rfl)
      have c1 := (hB.cell (p := ⟨g, o + k * 2 + 1, none⟩) hg).trans (hx 1 _ rfl)
      obtain ⟨ek, hek⟩ : ∃ x, x = l[k] := ⟨_, rfl⟩
      rw [← hek] at c0 c1
      have HK := Lib.hid hek
      have HB := Lib.hid hB
      have H0 := Lib.hid h0
      have H1 := Lib.hid h1
      clear hx hek hB h0 h1
      go_wp2_with fail
      refine (ends_class _ _).mono ?_
      rintro e w1 ⟨rfl, hb1⟩
      have hc1 : ∀ b o, b < (wr.alloc (Obj.cells #[Value.int IntKind.i32 ek.r, Value.int IntKind.u8 ek.c] 50)).heap.size → w1.cell? ⟨b, o, none⟩ = (wr.alloc (Obj.cells #[Value.int IntKind.i32 ek.r, Value.int IntKind.u8 ek.c] 50)).cell? ⟨b, o, none⟩ := fun b o h => hb1.cell (p := ⟨b, o, none⟩) h
      have hf1 : ∀ b o, b < (wr.alloc (Obj.cells #[Value.int IntKind.i32 ek.r, Value.int IntKind.u8 ek.c] 50)).heap.size → w1.frozen? ⟨b, o, none⟩ = (wr.alloc (Obj.cells #[Value.int IntKind.i32 ek.r, Value.int IntKind.u8 ek.c] 50)).frozen? ⟨b, o, none⟩ := fun b o h => hb1.frozen (p := ⟨b, o, none⟩) h
      have hz1 : wr.heap.size < w1.heap.size := by have := hb1.size; simp at this; omega
      have HB1 : Hid (Below w.heap.size w w1) := Lib.hid ((HB.out.alloc (by omega) _).trans (hb1.mono (by simp; omega)))
      have HX0 : Hid (Has w1 w.heap.size (Obj.cells #[Value.slice (some ⟨g, o, none⟩) l.length cap, Value.func (Fn.func 53) #[] #[]] 70)) := Lib.hid ((H0.out.alloc _).to hb1)
      have HX1 : Hid (Has w1 (w.heap.size + 1) (Obj.cells #[Value.int IntKind.i32 0, Value.int IntKind.u8 0] 50)) := Lib.hid ((H1.out.alloc _).to hb1)
      clear hb1
      have he : ¬ ek.r = r := by
        have := List.find?_eq_none.1 HY.out l[k] (List.getElem_mem hlt)
        rw [← HK.out] at this; simpa using this
      by_cases hle : ek.r ≤ r
      · have e1 : decide (ek.r ≤ r) = true := decide_eq_true (by omega)
        have e2 : decide (r ≤ ek.r) = false := decide_eq_false (by omega)
        go_wp2
        go_roundw
        case rel => exact ⟨k + 1, by omega, by go_num, HB1.out, HX0.out, HX1.out⟩
        case measure => simp [intOf]; omega
      · have e1 : decide (ek.r ≤ r) = false := decide_eq_false (by omega)
        go_wp2
        go_roundw
        case rel => exact ⟨k + 1, by omega, by go_num, HB1.out, HX0.out, HX1.out⟩
        case measure => simp [intOf]; omega
    · have HB := Lib.hid hB
      clear hB h0 h1
      go_wp2
      refine bodyPost_ret (v := .tuple #[.agg #[Value.int IntKind.i32 0, Value.int IntKind.u8 0], .bool false]) (by simp [results, Tryz.results35, go_sem, d0, d1, hsz]) rfl ⟨rfl, ?_⟩
      exact ((HB.out.setCell (p := ⟨_, 0, none⟩) (by simp) _).setCell (p := ⟨_, 1, none⟩) (by simp) _).alloc (by simp; omega) _
end Go.Proofs.YtbclodbneonipaaGreat
