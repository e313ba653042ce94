import Derived.Test.YtlpkcpacfldfaaaGreatProg
import Derived.WalkKit
import Derived.Laws.EntriesVeiled
import Derived.WalkSpells
import Derived.WalkLawsBesides
import Derived.Lib.Hide
import Derived.BigQuiet
import Derived.Deep.QuietTactic
import Derived.Below
import Derived.Outline
import Derived.Test.YtlpkcpacfldfaaaGreatGA
import Derived.RegionTactic
import Derived.BigRegion
import Derived.Maps.AppendAt
namespace Go.Proofs.YtlpkcpacfldfaaaGreat
open Go.RowKit N
theorem ret_bool {a b : Bool} (h : a = b) : Ending.returned (.bool a) = Ending.returned (.bool b) := by rw [h]
theorem ret_int {k : IntKind} {a b : Int} (h : a = b) : Ending.returned (.int k a) = .returned (.int k b) := by rw [h]
theorem bel2 {a w1 w2 : World} (h : Below a.heap.size a w1) (k : Below w1.heap.size w1 w2) : Below a.heap.size a w2 := h.trans (k.mono h.size)
/-- the slice v reads in w as the list l of structs of k cells -/
def Lst {α : Type} (w : World) (k : Nat) (enc : α → List Value) (v : Value) (l : List α) : Prop :=
  ∃ (p : Option Addr) (cap : Nat), v = .slice p l.length cap ∧ (p = none → cap = 0) ∧ ∀ i x, l[i]? = some x → ∃ g o, p = some ⟨g, o, none⟩ ∧ g < w.heap.size ∧ ∀ j u, (enc x)[j]? = some u → w.cell? ⟨g, o + i * k + j, none⟩ = some u
theorem Lst.below {α : Type} {w w' : World} {k : Nat} {enc : α → List Value} {v : Value} {l : List α} (h : Lst w k enc v l) (hb : Below w.heap.size w w') : Lst w' k enc v l := by
  obtain ⟨p, cap, hv, hn, hc⟩ := h
  refine ⟨p, cap, hv, hn, fun i x hi => ?_⟩
  obtain ⟨g, o, hp, hg, hx⟩ := hc i x hi
  exact ⟨g, o, hp, Nat.lt_of_lt_of_le hg hb.size, fun j u hj => (hb.cell (p := ⟨g, o + i * k + j, none⟩) hg).trans (hx j u hj)⟩
def encSp (x : Sp) : List Value := [.int .i32 x.lo, .int .i32 x.hi, .int .u8 x.st, x.mv]
def encCl (x : Cl) : List Value := [.int .i32 x.r, .int .u8 x.c]
def encPa (x : Pa) : List Value := [.int .i32 x.r, .int .i32 x.a, .int .i32 x.b, .bool x.one]
def encSg (x : Sg) : List Value := [.int .i32 x.lo, .int .i32 x.hi, .int .u8 x.k]
theorem below_dn {B : Nat} {a w : World} (h : Below B a w) (n : Nat) : Below B a (w.drewN n) := ⟨h.os, h.tape, h.output, h.size, h.block⟩
theorem bnew (w : World) (o : Obj) : Below w.heap.size w (w.alloc o) := (Below.refl _ w).alloc (Nat.le_refl _) o
/-- block g of w is the object o -/
def Has (w : World) (g : Nat) (o : Obj) : Prop := w.heap[g]? = some o
theorem Has.lt {w : World} {g : Nat} {o : Obj} (h : Has w g o) : g < w.heap.size := (Array.getElem?_eq_some_iff.1 h).1
theorem Has.new (w : World) (o : Obj) : Has (w.alloc o) w.heap.size o := heap_alloc_new w o
theorem Has.alloc {w : World} {g : Nat} {o : Obj} (h : Has w g o) (x : Obj) : Has (w.alloc x) g o := (Below.heap_alloc w x g h.lt).trans h
theorem Has.below {w w' : World} {g B : Nat} {o : Obj} (h : Has w g o) (hb : Below B w w') (hg : g < B) : Has w' g o := (hb.block g hg).trans h
theorem Has.to {w w' : World} {g : Nat} {o : Obj} (h : Has w g o) (hb : Below w.heap.size w w') : Has w' g o := h.below hb h.lt
theorem Has.cell {w : World} {g : Nat} {cs : Array Value} {t : TypeId} (h : Has w g (.cells cs t)) (i : Nat) {v : Value} (hv : cs[i]? = some v) : w.cell? ⟨g, i, none⟩ = some v := by
  rw [cell_of_row w g i cs t (0, 0) h]; exact hv
theorem Has.free {w : World} {g : Nat} {cs : Array Value} {t : TypeId} (h : Has w g (.cells cs t)) (i : Nat) : w.frozen? ⟨g, i, none⟩ = false := by
  unfold Has at h
  simp [World.frozen?, h]
theorem Has.set {w : World} {g : Nat} {cs : Array Value} {t : TypeId} (h : Has w g (.cells cs t)) (i : Nat) (u : Value) : Has (w.setCell ⟨g, i, none⟩ u) g (.cells (cs.setIfInBounds i u) t) := by
  unfold Has at h ⊢
  simp [World.setCell, Array.getElem?_modify, h]
theorem Has.far {w : World} {g : Nat} {o : Obj} (h : Has w g o) {p : Addr} (hp : g ≠ p.block) (u : Value) : Has (w.setCell p u) g o := (Below.heap_setCell w p u g hp).trans h
theorem take_snoc {α : Type} (l : List α) (k : Nat) (h : k < l.length) : l.take (k + 1) = l.take k ++ [l[k]] := by
  rw [List.take_succ_eq_append_getElem h]
theorem find_none {α : Type} {l : List α} {k : Nat} {f : α → Bool} (h : k < l.length) (h0 : (l.take k).find? f = none) (h1 : f l[k] = false) : (l.take (k + 1)).find? f = none := by
  rw [take_snoc l k h, List.find?_append, h0]
  simp [h1]
theorem find_here {α : Type} {l : List α} {k : Nat} {f : α → Bool} (h : k < l.length) (h0 : (l.take k).find? f = none) (h1 : f l[k] = true) : l.find? f = some l[k] := by
  have e : l = l.take k ++ (l[k] :: l.drop (k + 1)) := by simp
  have e2 : l.find? f = (l.take k ++ (l[k] :: l.drop (k + 1))).find? f := congrArg (List.find? f) e
  rw [e2, List.find?_append, h0, List.find?_cons_of_pos h1]
  rfl
/-- a table, as a value: where its five lists lie -/
structure TQ where
  T : Tab
  p0 : Option Addr
  p1 : Option Addr
  p2 : Option Addr
  p3 : Option Addr
  p4 : Option Addr
  c0 : Nat
  c1 : Nat
  c2 : Nat
  c3 : Nat
  c4 : Nat
abbrev TQ.v0 (q : TQ) : Value := .slice q.p0 q.T.spans.length q.c0
abbrev TQ.v1 (q : TQ) : Value := .slice q.p1 q.T.classes.length q.c1
abbrev TQ.v2 (q : TQ) : Value := .slice q.p2 q.T.pairs.length q.c2
abbrev TQ.v3 (q : TQ) : Value := .slice q.p3 q.T.ways.length q.c3
abbrev TQ.v4 (q : TQ) : Value := .slice q.p4 q.T.joins.length q.c4
abbrev TQ.cs (q : TQ) : Array Value := #[.slice q.p0 q.T.spans.length q.c0, .slice q.p1 q.T.classes.length q.c1, .slice q.p2 q.T.pairs.length q.c2, .slice q.p3 q.T.ways.length q.c3, .slice q.p4 q.T.joins.length q.c4]
abbrev TQ.v (q : TQ) : Value := .agg #[.slice q.p0 q.T.spans.length q.c0, .slice q.p1 q.T.classes.length q.c1, .slice q.p2 q.T.pairs.length q.c2, .slice q.p3 q.T.ways.length q.c3, .slice q.p4 q.T.joins.length q.c4]
end Go.Proofs.YtlpkcpacfldfaaaGreat
namespace Go.Proofs.YtlpkcpacfldfaaaGreat
open Go.RowKit N
set_option maxHeartbeats 1000000 in
theorem ends_class_any (a b : Value) (w : World) : Calls Tryz.prog 111 #[.agg #[a, b]] w fun e w' => e = .returned (.tuple #[a, a]) ∧ Below w.heap.size w w' := by
  go_enter Tryz.func111, Tryz.ntmps111
  go_wp2
  go_quiet (fail)
  go_wp2
  go_ret2
  exact ⟨rfl, below_dn (bnew _ _) nq⟩
theorem ends_class (x : Cl) (w : World) : Calls Tryz.prog 111 #[.agg #[.int .i32 x.r, .int .u8 x.c]] w fun e w' => e = .returned (.tuple #[.int .i32 x.r, .int .i32 x.r]) ∧ Below w.heap.size w w' := ends_class_any _ _ w
set_option maxHeartbeats 1000000 in
theorem ends_pair_any (a b c d : Value) (w : World) : Calls Tryz.prog 144 #[.agg #[a, b, c, d]] w fun e w' => e = .returned (.tuple #[a, a]) ∧ Below w.heap.size w w' := by
  go_enter Tryz.func144, Tryz.ntmps144
  go_wp2
  go_quiet (fail)
  go_wp2
  go_ret2
  exact ⟨rfl, below_dn (bnew _ _) nq⟩
theorem ends_pair (x : Pa) (w : World) : Calls Tryz.prog 144 #[.agg #[.int .i32 x.r, .int .i32 x.a, .int .i32 x.b, .bool x.one]] w fun e w' => e = .returned (.tuple #[.int .i32 x.r, .int .i32 x.r]) ∧ Below w.heap.size w w' := ends_pair_any _ _ _ _ w
set_option maxHeartbeats 1000000 in
theorem ends_status_any (a b c d : Value) (w : World) : Calls Tryz.prog 143 #[.agg #[a, b, c, d]] w fun e w' => e = .returned (.tuple #[a, b]) ∧ Below w.heap.size w w' := by
  go_enter Tryz.func143, Tryz.ntmps143
  go_wp2
  go_quiet (fail)
  go_wp2
  go_ret2
  exact ⟨rfl, below_dn (bnew _ _) nq⟩
set_option maxHeartbeats 1000000 in
theorem ends_way_any (a b c : Value) (w : World) : Calls Tryz.prog 226 #[.agg #[a, b, c]] w fun e w' => e = .returned (.tuple #[a, b]) ∧ Below w.heap.size w w' := by
  go_enter Tryz.func226, Tryz.ntmps226
  go_wp2
  go_quiet (fail)
  go_wp2
  go_ret2
  exact ⟨rfl, below_dn (bnew _ _) nq⟩
set_option maxHeartbeats 1000000 in
theorem ends_join_any (a b c : Value) (w : World) : Calls Tryz.prog 227 #[.agg #[a, b, c]] w fun e w' => e = .returned (.tuple #[a, b]) ∧ Below w.heap.size w w' := by
  go_enter Tryz.func227, Tryz.ntmps227
  go_wp2
  go_quiet (fail)
  go_wp2
  go_ret2
  exact ⟨rfl, below_dn (bnew _ _) nq⟩
set_option maxHeartbeats 1000000 in
theorem classes_any (q : TQ) (w : World) : Calls Tryz.prog 60 #[q.v] w fun e w' => e = .returned (.agg #[q.v1, .func (.func 111) #[] #[]]) ∧ Below w.heap.size w w' := by
  unfold TQ.v TQ.v1
  go_enter Tryz.func60, Tryz.ntmps60
  go_wp2
  exact bodyPost_ret (v := .agg #[q.v1, .func (.func 111) #[] #[]]) (by simp [results, Tryz.results60, go_sem]) rfl ⟨rfl, (bnew w _).alloc (by simp) _⟩
set_option maxHeartbeats 1000000 in
theorem statuses_any (q : TQ) (w : World) : Calls Tryz.prog 81 #[q.v] w fun e w' => e = .returned (.agg #[q.v0, .func (.func 143) #[] #[]]) ∧ Below w.heap.size w w' := by
  unfold TQ.v TQ.v0
  go_enter Tryz.func81, Tryz.ntmps81
  go_wp2
  exact bodyPost_ret (v := .agg #[q.v0, .func (.func 143) #[] #[]]) (by simp [results, Tryz.results81, go_sem]) rfl ⟨rfl, (bnew w _).alloc (by simp) _⟩
set_option maxHeartbeats 1000000 in
theorem pairs_any (q : TQ) (w : World) : Calls Tryz.prog 83 #[q.v] w fun e w' => e = .returned (.agg #[q.v2, .func (.func 144) #[] #[]]) ∧ Below w.heap.size w w' := by
  unfold TQ.v TQ.v2
  go_enter Tryz.func83, Tryz.ntmps83
  go_wp2
  exact bodyPost_ret (v := .agg #[q.v2, .func (.func 144) #[] #[]]) (by simp [results, Tryz.results83, go_sem]) rfl ⟨rfl, (bnew w _).alloc (by simp) _⟩
set_option maxHeartbeats 1000000 in
theorem ways_any (q : TQ) (w : World) : Calls Tryz.prog 175 #[q.v] w fun e w' => e = .returned (.agg #[q.v3, .func (.func 226) #[] #[]]) ∧ Below w.heap.size w w' := by
  unfold TQ.v TQ.v3
  go_enter Tryz.func175, Tryz.ntmps175
  go_wp2
  exact bodyPost_ret (v := .agg #[q.v3, .func (.func 226) #[] #[]]) (by simp [results, Tryz.results175, go_sem]) rfl ⟨rfl, (bnew w _).alloc (by simp) _⟩
set_option maxHeartbeats 1000000 in
theorem joins_any (q : TQ) (w : World) : Calls Tryz.prog 177 #[q.v] w fun e w' => e = .returned (.agg #[q.v4, .func (.func 227) #[] #[]]) ∧ Below w.heap.size w w' := by
  unfold TQ.v TQ.v4
  go_enter Tryz.func177, Tryz.ntmps177
  go_wp2
  exact bodyPost_ret (v := .agg #[q.v4, .func (.func 227) #[] #[]]) (by simp [results, Tryz.results177, go_sem]) rfl ⟨rfl, (bnew w _).alloc (by simp) _⟩
end Go.Proofs.YtlpkcpacfldfaaaGreat
namespace Go.Proofs.YtlpkcpacfldfaaaGreat
open Go.RowKit N
set_option maxHeartbeats 4000000 in
theorem find_class_some (v : Value) (l : List Cl) (r : Int) (w : World) (hl : l.length ≤ maxLen) (h : Lst w 2 encCl v l) (y : Cl) (hy : l.find? (fun x => x.r == r) = some y) :
    Calls Tryz.prog 59 #[.agg #[v, .func (.func 111) #[] #[]], .int .i32 r] w fun e w' => e = .returned (.tuple #[.agg #[Value.int IntKind.i32 y.r, Value.int IntKind.u8 y.c], .bool true]) ∧ Below w.heap.size w w' := by
  unfold maxLen at hl
  obtain ⟨p, cap, rfl, hn, hc⟩ := h
  have HC := Lib.hid hc
  have HY := Lib.hid hy
  clear hc hy
  go_enter Tryz.func59, Tryz.ntmps59
  go_wp2
  have hH0 := (Has.new w (Obj.cells #[Value.slice p l.length cap, Value.func (Fn.func 111) #[] #[]] 90)).alloc (Obj.cells #[Value.int IntKind.i32 0, Value.int IntKind.u8 0] 74)
  have hH1 := Has.new (w.alloc (Obj.cells #[Value.slice p l.length cap, Value.func (Fn.func 111) #[] #[]] 90)) (Obj.cells #[Value.int IntKind.i32 0, Value.int IntKind.u8 0] 74)
  have hbW := (bnew w (Obj.cells #[Value.slice p l.length cap, Value.func (Fn.func 111) #[] #[]] 90)).alloc (by simp) (Obj.cells #[Value.int IntKind.i32 0, Value.int IntKind.u8 0] 74)
  rw [World.size_alloc] at hH1
  go_loopw [14] (fun i wr => ∃ k : Nat, k ≤ l.length ∧ i = .int .i64 k ∧ Hid ((l.take k).find? (fun x => x.r == r) = none) ∧ Below w.heap.size w wr ∧ Has wr w.heap.size (Obj.cells #[Value.slice p l.length cap, Value.func (Fn.func 111) #[] #[]] 90) ∧ Has wr (w.heap.size + 1) (Obj.cells #[Value.int IntKind.i32 0, Value.int IntKind.u8 0] 74)) (fun i _ => l.length - (intOf i).toNat)
  case atStart => exact ⟨0, Nat.zero_le _, rfl, Lib.hid rfl, hbW, hH0, hH1⟩
  case round =>
    obtain ⟨k, hk, rfl, HN, hB, h0, h1⟩ := hrel
    clear hH0 hH1 hbW
    have hsz := h1.lt
    have hsy := h0.lt
    have r0 : wr.cell? ⟨w.heap.size, 0, none⟩ = some (Value.slice p l.length cap) := h0.cell 0 rfl
    have r1 : wr.cell? ⟨w.heap.size, 1, none⟩ = some (Value.func (Fn.func 111) #[] #[]) := h0.cell 1 rfl
    have d0 : wr.cell? ⟨w.heap.size + 1, 0, none⟩ = some (Value.int IntKind.i32 0) := h1.cell 0 rfl
    have f0 := h1.free 0
    have d1 : wr.cell? ⟨w.heap.size + 1, 1, none⟩ = some (Value.int IntKind.u8 0) := h1.cell 1 rfl
    have f1 := h1.free 1
    by_cases hlt : k < l.length
    · obtain ⟨g, o, rfl, hg, hx⟩ := HC.out k l[k] (List.getElem?_eq_getElem hlt)
      have c0 := (hB.cell (p := ⟨g, o + k * 2, none⟩) hg).trans (hx 0 _ rfl)
      have c1 := (hB.cell (p := ⟨g, o + k * 2 + 1, none⟩) hg).trans (hx 1 _ rfl)
      obtain ⟨ek, hek⟩ : ∃ x, x = l[k] := ⟨_, rfl⟩
      rw [← hek] at c0 c1
      have HK := Lib.hid hek
      have HB := Lib.hid hB
      have H0 := Lib.hid h0
      have H1 := Lib.hid h1
      clear hx hek hB h0 h1
      go_wp2_with fail
      refine (ends_class _ _).mono ?_
      rintro e w1 ⟨rfl, hb1⟩
      have hc1 : ∀ b o, b < (wr.alloc (Obj.cells #[Value.int IntKind.i32 ek.r, Value.int IntKind.u8 ek.c] 74)).heap.size → w1.cell? ⟨b, o, none⟩ = (wr.alloc (Obj.cells #[Value.int IntKind.i32 ek.r, Value.int IntKind.u8 ek.c] 74)).cell? ⟨b, o, none⟩ := fun b o h => hb1.cell (p := ⟨b, o, none⟩) h
      have hf1 : ∀ b o, b < (wr.alloc (Obj.cells #[Value.int IntKind.i32 ek.r, Value.int IntKind.u8 ek.c] 74)).heap.size → w1.frozen? ⟨b, o, none⟩ = (wr.alloc (Obj.cells #[Value.int IntKind.i32 ek.r, Value.int IntKind.u8 ek.c] 74)).frozen? ⟨b, o, none⟩ := fun b o h => hb1.frozen (p := ⟨b, o, none⟩) h
      have hz1 : wr.heap.size < w1.heap.size := by have := hb1.size; simp at this; omega
      have HB1 : Hid (Below w.heap.size w w1) := Lib.hid ((HB.out.alloc (by omega) _).trans (hb1.mono (by simp; omega)))
      have HX0 : Hid (Has w1 w.heap.size (Obj.cells #[Value.slice (some ⟨g, o, none⟩) l.length cap, Value.func (Fn.func 111) #[] #[]] 90)) := Lib.hid ((H0.out.alloc _).to hb1)
      have HX1 : Hid (Has w1 (w.heap.size + 1) (Obj.cells #[Value.int IntKind.i32 0, Value.int IntKind.u8 0] 74)) := Lib.hid ((H1.out.alloc _).to hb1)
      clear hb1
      have x0 : w1.cell? ⟨w.heap.size + 1, 0, none⟩ = some (Value.int IntKind.i32 0) := HX1.out.cell 0 rfl
      have y0 := HX1.out.free 0
      have x1 : w1.cell? ⟨w.heap.size + 1, 1, none⟩ = some (Value.int IntKind.u8 0) := HX1.out.cell 1 rfl
      have y1 := HX1.out.free 1
      by_cases he : ek.r = r
      · have e1 : decide (ek.r ≤ r) = true := decide_eq_true (by omega)
        have e2 : decide (r ≤ ek.r) = true := decide_eq_true (by omega)
        have HE : Hid (y = ek) := Lib.hid (by
          have := find_here (f := fun x => x.r == r) hlt HN.out (by rw [← HK.out]; simp [he])
          rw [HY.out] at this
          rw [HK.out]; exact Option.some.inj this)
        have HER := Lib.hid he
        clear he
        go_wp2
        refine bodyPost_ret (v := .tuple #[.agg #[Value.int IntKind.i32 ek.r, Value.int IntKind.u8 ek.c], .bool true]) (by simp [results, Tryz.results59, go_sem, x0, x1]) rfl ⟨by rw [HE.out], ?_⟩
        exact (HB1.out.setCell (p := ⟨_, 0, none⟩) (by simp) _).setCell (p := ⟨_, 1, none⟩) (by simp) _
      · have HN1 : Hid ((l.take (k + 1)).find? (fun x => x.r == r) = none) := Lib.hid (find_none hlt HN.out (by rw [← HK.out]; simpa using he))
        by_cases hle : ek.r ≤ r
        · have e1 : decide (ek.r ≤ r) = true := decide_eq_true (by omega)
          have e2 : decide (r ≤ ek.r) = false := decide_eq_false (by omega)
          go_wp2
          go_roundw
          case rel => exact ⟨k + 1, by omega, by go_num, HN1, HB1.out, HX0.out, HX1.out⟩
          case measure => simp [intOf]; omega
        · have e1 : decide (ek.r ≤ r) = false := decide_eq_false (by omega)
          go_wp2
          go_roundw
          case rel => exact ⟨k + 1, by omega, by go_num, HN1, HB1.out, HX0.out, HX1.out⟩
          case measure => simp [intOf]; omega
    · exfalso
      have e := HN.out
      rw [List.take_of_length_le (by omega), HY.out] at e
      cases e
set_option maxHeartbeats 4000000 in
theorem find_class_none (v : Value) (l : List Cl) (r : Int) (w : World) (hl : l.length ≤ maxLen) (h : Lst w 2 encCl v l) (hy : l.find? (fun x => x.r == r) = none) :
    Calls Tryz.prog 59 #[.agg #[v, .func (.func 111) #[] #[]], .int .i32 r] w fun e w' => e = .returned (.tuple #[.agg #[Value.int IntKind.i32 0, Value.int IntKind.u8 0], .bool false]) ∧ Below w.heap.size w w' := by
  unfold maxLen at hl
  obtain ⟨p, cap, rfl, hn, hc⟩ := h
  have HC := Lib.hid hc
  have HY := Lib.hid hy
  clear hc hy
  go_enter Tryz.func59, Tryz.ntmps59
  go_wp2
  have hH0 := (Has.new w (Obj.cells #[Value.slice p l.length cap, Value.func (Fn.func 111) #[] #[]] 90)).alloc (Obj.cells #[Value.int IntKind.i32 0, Value.int IntKind.u8 0] 74)
  have hH1 := Has.new (w.alloc (Obj.cells #[Value.slice p l.length cap, Value.func (Fn.func 111) #[] #[]] 90)) (Obj.cells #[Value.int IntKind.i32 0, Value.int IntKind.u8 0] 74)
  have hbW := (bnew w (Obj.cells #[Value.slice p l.length cap, Value.func (Fn.func 111) #[] #[]] 90)).alloc (by simp) (Obj.cells #[Value.int IntKind.i32 0, Value.int IntKind.u8 0] 74)
  rw [World.size_alloc] at hH1
  go_loopw [14] (fun i wr => ∃ k : Nat, k ≤ l.length ∧ i = .int .i64 k ∧ Below w.heap.size w wr ∧ Has wr w.heap.size (Obj.cells #[Value.slice p l.length cap, Value.func (Fn.func 111) #[] #[]] 90) ∧ Has wr (w.heap.size + 1) (Obj.cells #[Value.int IntKind.i32 0, Value.int IntKind.u8 0] 74)) (fun i _ => l.length - (intOf i).toNat)
  case atStart => exact ⟨0, Nat.zero_le _, rfl, hbW, hH0, hH1⟩
  case round =>
    obtain ⟨k, hk, rfl, hB, h0, h1⟩ := hrel
    clear hH0 hH1 hbW
    have hsz := h1.lt
    have hsy := h0.lt
    have r0 : wr.cell? ⟨w.heap.size, 0, none⟩ = some (Value.slice p l.length cap) := h0.cell 0 rfl
    have r1 : wr.cell? ⟨w.heap.size, 1, none⟩ = some (Value.func (Fn.func 111) #[] #[]) := h0.cell 1 rfl
    have d0 : wr.cell? ⟨w.heap.size + 1, 0, none⟩ = some (Value.int IntKind.i32 0) := h1.cell 0 rfl
    have f0 := h1.free 0
    have d1 : wr.cell? ⟨w.heap.size + 1, 1, none⟩ = some (Value.int IntKind.u8 0) := h1.cell 1 rfl
    have f1 := h1.free 1
    by_cases hlt : k < l.length
    · obtain ⟨g, o, rfl, hg, hx⟩ := HC.out k l[k] (List.getElem?_eq_getElem hlt)
      have c0 := (hB.cell (p := ⟨g, o + k * 2, none⟩) hg).trans (hx 0 _ rfl)
      have c1 := (hB.cell (p := ⟨g, o + k * 2 + 1, none⟩) hg).trans (hx 1 _ rfl)
      obtain ⟨ek, hek⟩ : ∃ x, x = l[k] := ⟨_, rfl⟩
      rw [← hek] at c0 c1
      have HK := Lib.hid hek
      have HB := Lib.hid hB
      have H0 := Lib.hid h0
      have H1 := Lib.hid h1
      clear hx hek hB h0 h1
      go_wp2_with fail
      refine (ends_class _ _).mono ?_
      rintro e w1 ⟨rfl, hb1⟩
      have hc1 : ∀ b o, b < (wr.alloc (Obj.cells #[Value.int IntKind.i32 ek.r, Value.int IntKind.u8 ek.c] 74)).heap.size → w1.cell? ⟨b, o, none⟩ = (wr.alloc (Obj.cells #[Value.int IntKind.i32 ek.r, Value.int IntKind.u8 ek.c] 74)).cell? ⟨b, o, none⟩ := fun b o h => hb1.cell (p := ⟨b, o, none⟩) h
      have hf1 : ∀ b o, b < (wr.alloc (Obj.cells #[Value.int IntKind.i32 ek.r, Value.int IntKind.u8 ek.c] 74)).heap.size → w1.frozen? ⟨b, o, none⟩ = (wr.alloc (Obj.cells #[Value.int IntKind.i32 ek.r, Value.int IntKind.u8 ek.c] 74)).frozen? ⟨b, o, none⟩ := fun b o h => hb1.frozen (p := ⟨b, o, none⟩) h
      have hz1 : wr.heap.size < w1.heap.size := by have := hb1.size; simp at this; omega
      have HB1 : Hid (Below w.heap.size w w1) := Lib.hid ((HB.out.alloc (by omega) _).trans (hb1.mono (by simp; omega)))
      have HX0 : Hid (Has w1 w.heap.size (Obj.cells #[Value.slice (some ⟨g, o, none⟩) l.length cap, Value.func (Fn.func 111) #[] #[]] 90)) := Lib.hid ((H0.out.alloc _).to hb1)
      have HX1 : Hid (Has w1 (w.heap.size + 1) (Obj.cells #[Value.int IntKind.i32 0, Value.int IntKind.u8 0] 74)) := Lib.hid ((H1.out.alloc _).to hb1)
      clear hb1
      have he : ¬ ek.r = r := by
        have := List.find?_eq_none.1 HY.out l[k] (List.getElem_mem hlt)
        rw [← HK.out] at this; simpa using this
      by_cases hle : ek.r ≤ r
      · have e1 : decide (ek.r ≤ r) = true := decide_eq_true (by omega)
        have e2 : decide (r ≤ ek.r) = false := decide_eq_false (by omega)
        go_wp2
        go_roundw
        case rel => exact ⟨k + 1, by omega, by go_num, HB1.out, HX0.out, HX1.out⟩
        case measure => simp [intOf]; omega
      · have e1 : decide (ek.r ≤ r) = false := decide_eq_false (by omega)
        go_wp2
        go_roundw
        case rel => exact ⟨k + 1, by omega, by go_num, HB1.out, HX0.out, HX1.out⟩
        case measure => simp [intOf]; omega
    · have HB := Lib.hid hB
      clear hB h0 h1
      go_wp2
      refine bodyPost_ret (v := .tuple #[.agg #[Value.int IntKind.i32 0, Value.int IntKind.u8 0], .bool false]) (by simp [results, Tryz.results59, go_sem, d0, d1, hsz]) rfl ⟨rfl, ?_⟩
      exact ((HB.out.setCell (p := ⟨_, 0, none⟩) (by simp) _).setCell (p := ⟨_, 1, none⟩) (by simp) _).alloc (by simp; omega) _
end Go.Proofs.YtlpkcpacfldfaaaGreat
namespace Go.Proofs.YtlpkcpacfldfaaaGreat
open Go.RowKit N
set_option maxHeartbeats 4000000 in
theorem find_pair_some (v : Value) (l : List Pa) (r : Int) (w : World) (hl : l.length ≤ maxLen) (h : Lst w 4 encPa v l) (y : Pa) (hy : l.find? (fun x => x.r == r) = some y) :
    Calls Tryz.prog 82 #[.agg #[v, .func (.func 144) #[] #[]], .int .i32 r] w fun e w' => e = .returned (.tuple #[.agg #[Value.int IntKind.i32 y.r, Value.int IntKind.i32 y.a, Value.int IntKind.i32 y.b, Value.bool y.one], .bool true]) ∧ Below w.heap.size w w' := by
  unfold maxLen at hl
  obtain ⟨p, cap, rfl, hn, hc⟩ := h
  have HC := Lib.hid hc
  have HY := Lib.hid hy
  clear hc hy
  go_enter Tryz.func82, Tryz.ntmps82
  go_wp2
  have hH0 := (Has.new w (Obj.cells #[Value.slice p l.length cap, Value.func (Fn.func 144) #[] #[]] 119)).alloc (Obj.cells #[Value.int IntKind.i32 0, Value.int IntKind.i32 0, Value.int IntKind.i32 0, Value.bool false] 54)
  have hH1 := Has.new (w.alloc (Obj.cells #[Value.slice p l.length cap, Value.func (Fn.func 144) #[] #[]] 119)) (Obj.cells #[Value.int IntKind.i32 0, Value.int IntKind.i32 0, Value.int IntKind.i32 0, Value.bool false] 54)
  have hbW := (bnew w (Obj.cells #[Value.slice p l.length cap, Value.func (Fn.func 144) #[] #[]] 119)).alloc (by simp) (Obj.cells #[Value.int IntKind.i32 0, Value.int IntKind.i32 0, Value.int IntKind.i32 0, Value.bool false] 54)
  rw [World.size_alloc] at hH1
  go_loopw [14] (fun i wr => ∃ k : Nat, k ≤ l.length ∧ i = .int .i64 k ∧ Hid ((l.take k).find? (fun x => x.r == r) = none) ∧ Below w.heap.size w wr ∧ Has wr w.heap.size (Obj.cells #[Value.slice p l.length cap, Value.func (Fn.func 144) #[] #[]] 119) ∧ Has wr (w.heap.size + 1) (Obj.cells #[Value.int IntKind.i32 0, Value.int IntKind.i32 0, Value.int IntKind.i32 0, Value.bool false] 54)) (fun i _ => l.length - (intOf i).toNat)
  case atStart => exact ⟨0, Nat.zero_le _, rfl, Lib.hid rfl, hbW, hH0, hH1⟩
  case round =>
    obtain ⟨k, hk, rfl, HN, hB, h0, h1⟩ := hrel
    clear hH0 hH1 hbW
    have hsz := h1.lt
    have hsy := h0.lt
    have r0 : wr.cell? ⟨w.heap.size, 0, none⟩ = some (Value.slice p l.length cap) := h0.cell 0 rfl
    have r1 : wr.cell? ⟨w.heap.size, 1, none⟩ = some (Value.func (Fn.func 144) #[] #[]) := h0.cell 1 rfl
    have d0 : wr.cell? ⟨w.heap.size + 1, 0, none⟩ = some (Value.int IntKind.i32 0) := h1.cell 0 rfl
    have f0 := h1.free 0
    have d1 : wr.cell? ⟨w.heap.size + 1, 1, none⟩ = some (Value.int IntKind.i32 0) := h1.cell 1 rfl
    have f1 := h1.free 1
    have d2 : wr.cell? ⟨w.heap.size + 1, 2, none⟩ = some (Value.int IntKind.i32 0) := h1.cell 2 rfl
    have f2 := h1.free 2
    have d3 : wr.cell? ⟨w.heap.size + 1, 3, none⟩ = some (Value.bool false) := h1.cell 3 rfl
    have f3 := h1.free 3
    by_cases hlt : k < l.length
    · obtain ⟨g, o, rfl, hg, hx⟩ := HC.out k l[k] (List.getElem?_eq_getElem hlt)
      have c0 := (hB.cell (p := ⟨g, o + k * 4, none⟩) hg).trans (hx 0 _ rfl)
      have c1 := (hB.cell (p := ⟨g, o + k * 4 + 1, none⟩) hg).trans (hx 1 _ rfl)
      have c2 := (hB.cell (p := ⟨g, o + k * 4 + 2, none⟩) hg).trans (hx 2 _ rfl)
      have c3 := (hB.cell (p := ⟨g, o + k * 4 + 3, none⟩) hg).trans (hx 3 _ rfl)
      obtain ⟨ek, hek⟩ : ∃ x, x = l[k] := ⟨_, rfl⟩
      rw [← hek] at c0 c1 c2 c3
      have HK := Lib.hid hek
      have HB := Lib.hid hB
      have H0 := Lib.hid h0
      have H1 := Lib.hid h1
      clear hx hek hB h0 h1
      go_wp2_with fail
      refine (ends_pair _ _).mono ?_
      rintro e w1 ⟨rfl, hb1⟩
      have hc1 : ∀ b o, b < (wr.alloc (Obj.cells #[Value.int IntKind.i32 ek.r, Value.int IntKind.i32 ek.a, Value.int IntKind.i32 ek.b, Value.bool ek.one] 54)).heap.size → w1.cell? ⟨b, o, none⟩ = (wr.alloc (Obj.cells #[Value.int IntKind.i32 ek.r, Value.int IntKind.i32 ek.a, Value.int IntKind.i32 ek.b, Value.bool ek.one] 54)).cell? ⟨b, o, none⟩ := fun b o h => hb1.cell (p := ⟨b, o, none⟩) h
      have hf1 : ∀ b o, b < (wr.alloc (Obj.cells #[Value.int IntKind.i32 ek.r, Value.int IntKind.i32 ek.a, Value.int IntKind.i32 ek.b, Value.bool ek.one] 54)).heap.size → w1.frozen? ⟨b, o, none⟩ = (wr.alloc (Obj.cells #[Value.int IntKind.i32 ek.r, Value.int IntKind.i32 ek.a, Value.int IntKind.i32 ek.b, Value.bool ek.one] 54)).frozen? ⟨b, o, none⟩ := fun b o h => hb1.frozen (p := ⟨b, o, none⟩) h
      have hz1 : wr.heap.size < w1.heap.size := by have := hb1.size; simp at this; omega
      have HB1 : Hid (Below w.heap.size w w1) := Lib.hid ((HB.out.alloc (by omega) _).trans (hb1.mono (by simp; omega)))
      have HX0 : Hid (Has w1 w.heap.size (Obj.cells #[Value.slice (some ⟨g, o, none⟩) l.length cap, Value.func (Fn.func 144) #[] #[]] 119)) := Lib.hid ((H0.out.alloc _).to hb1)
      have HX1 : Hid (Has w1 (w.heap.size + 1) (Obj.cells #[Value.int IntKind.i32 0, Value.int IntKind.i32 0, Value.int IntKind.i32 0, Value.bool false] 54)) := Lib.hid ((H1.out.alloc _).to hb1)
      clear hb1
      have x0 : w1.cell? ⟨w.heap.size + 1, 0, none⟩ = some (Value.int IntKind.i32 0) := HX1.out.cell 0 rfl
      have y0 := HX1.out.free 0
      have x1 : w1.cell? ⟨w.heap.size + 1, 1, none⟩ = some (Value.int IntKind.i32 0) := HX1.out.cell 1 rfl
      have y1 := HX1.out.free 1
      have x2 : w1.cell? ⟨w.heap.size + 1, 2, none⟩ = some (Value.int IntKind.i32 0) := HX1.out.cell 2 rfl
      have y2 := HX1.out.free 2
      have x3 : w1.cell? ⟨w.heap.size + 1, 3, none⟩ = some (Value.bool false) := HX1.out.cell 3 rfl
      have y3 := HX1.out.free 3
      by_cases he : ek.r = r
      · have e1 : decide (ek.r ≤ r) = true := decide_eq_true (by omega)
        have e2 : decide (r ≤ ek.r) = true := decide_eq_true (by omega)
        have HE : Hid (y = ek) := Lib.hid (by
          have := find_here (f := fun x => x.r == r) hlt HN.out (by rw [← HK.out]; simp [he])
          rw [HY.out] at this
          rw [HK.out]; exact Option.some.inj this)
        have HER := Lib.hid he
        clear he
        go_wp2
        refine bodyPost_ret (v := .tuple #[.agg #[Value.int IntKind.i32 ek.r, Value.int IntKind.i32 ek.a, Value.int IntKind.i32 ek.b, Value.bool ek.one], .bool true]) (by simp [results, Tryz.results82, go_sem, x0, x1, x2, x3]) rfl ⟨by rw [HE.out], ?_⟩
        exact (((HB1.out.setCell (p := ⟨_, 0, none⟩) (by simp) _).setCell (p := ⟨_, 1, none⟩) (by simp) _).setCell (p := ⟨_, 2, none⟩) (by simp) _).setCell (p := ⟨_, 3, none⟩) (by simp) _
      · have HN1 : Hid ((l.take (k + 1)).find? (fun x => x.r == r) = none) := Lib.hid (find_none hlt HN.out (by rw [← HK.out]; simpa using he))
        by_cases hle : ek.r ≤ r
        · have e1 : decide (ek.r ≤ r) = true := decide_eq_true (by omega)
          have e2 : decide (r ≤ ek.r) = false := decide_eq_false (by omega)
          go_wp2
          go_roundw
          case rel => exact ⟨k + 1, by omega, by go_num, HN1, HB1.out, HX0.out, HX1.out⟩
          case measure => simp [intOf]; omega
        · have e1 : decide (ek.r ≤ r) = false := decide_eq_false (by omega)
          go_wp2
          go_roundw
          case rel => exact ⟨k + 1, by omega, by go_num, HN1, HB1.out, HX0.out, HX1.out⟩
          case measure => simp [intOf]; omega
    · exfalso
      have e := HN.out
      rw [List.take_of_length_le (by omega), HY.out] at e
      cases e
set_option maxHeartbeats 4000000 in
theorem find_pair_none (v : Value) (l : List Pa) (r : Int) (w : World) (hl : l.length ≤ maxLen) (h : Lst w 4 encPa v l) (hy : l.find? (fun x => x.r == r) = none) :
    Calls Tryz.prog 82 #[.agg #[v, .func (.func 144) #[] #[]], .int .i32 r] w fun e w' => e = .returned (.tuple #[.agg #[Value.int IntKind.i32 0, Value.int IntKind.i32 0, Value.int IntKind.i32 0, Value.bool false], .bool false]) ∧ Below w.heap.size w w' := by
  unfold maxLen at hl
  obtain ⟨p, cap, rfl, hn, hc⟩ := h
  have HC := Lib.hid hc
  have HY := Lib.hid hy
  clear hc hy
  go_enter Tryz.func82, Tryz.ntmps82
  go_wp2
  have hH0 := (Has.new w (Obj.cells #[Value.slice p l.length cap, Value.func (Fn.func 144) #[] #[]] 119)).alloc (Obj.cells #[Value.int IntKind.i32 0, Value.int IntKind.i32 0, Value.int IntKind.i32 0, Value.bool false] 54)
  have hH1 := Has.new (w.alloc (Obj.cells #[Value.slice p l.length cap, Value.func (Fn.func 144) #[] #[]] 119)) (Obj.cells #[Value.int IntKind.i32 0, Value.int IntKind.i32 0, Value.int IntKind.i32 0, Value.bool false] 54)
  have hbW := (bnew w (Obj.cells #[Value.slice p l.length cap, Value.func (Fn.func 144) #[] #[]] 119)).alloc (by simp) (Obj.cells #[Value.int IntKind.i32 0, Value.int IntKind.i32 0, Value.int IntKind.i32 0, Value.bool false] 54)
  rw [World.size_alloc] at hH1
  go_loopw [14] (fun i wr => ∃ k : Nat, k ≤ l.length ∧ i = .int .i64 k ∧ Below w.heap.size w wr ∧ Has wr w.heap.size (Obj.cells #[Value.slice p l.length cap, Value.func (Fn.func 144) #[] #[]] 119) ∧ Has wr (w.heap.size + 1) (Obj.cells #[Value.int IntKind.i32 0, Value.int IntKind.i32 0, Value.int IntKind.i32 0, Value.bool false] 54)) (fun i _ => l.length - (intOf i).toNat)
  case atStart => exact ⟨0, Nat.zero_le _, rfl, hbW, hH0, hH1⟩
  case round =>
    obtain ⟨k, hk, rfl, hB, h0, h1⟩ := hrel
    clear hH0 hH1 hbW
    have hsz := h1.lt
    have hsy := h0.lt
    have r0 : wr.cell? ⟨w.heap.size, 0, none⟩ = some (Value.slice p l.length cap) := h0.cell 0 rfl
    have r1 : wr.cell? ⟨w.heap.size, 1, none⟩ = some (Value.func (Fn.func 144) #[] #[]) := h0.cell 1 rfl
    have d0 : wr.cell? ⟨w.heap.size + 1, 0, none⟩ = some (Value.int IntKind.i32 0) := h1.cell 0 rfl
    have f0 := h1.free 0
    have d1 : wr.cell? ⟨w.heap.size + 1, 1, none⟩ = some (Value.int IntKind.i32 0) := h1.cell 1 rfl
    have f1 := h1.free 1
    have d2 : wr.cell? ⟨w.heap.size + 1, 2, none⟩ = some (Value.int IntKind.i32 0) := h1.cell 2 rfl
    have f2 := h1.free 2
    have d3 : wr.cell? ⟨w.heap.size + 1, 3, none⟩ = some (Value.bool false) := h1.cell 3 rfl
    have f3 := h1.free 3
    by_cases hlt : k < l.length
    · obtain ⟨g, o, rfl, hg, hx⟩ := HC.out k l[k] (List.getElem?_eq_getElem hlt)
      have c0 := (hB.cell (p := ⟨g, o + k * 4, none⟩) hg).trans (hx 0 _ rfl)
      have c1 := (hB.cell (p := ⟨g, o + k * 4 + 1, none⟩) hg).trans (hx 1 _ rfl)
      have c2 := (hB.cell (p := ⟨g, o + k * 4 + 2, none⟩) hg).trans (hx 2 _ rfl)
      have c3 := (hB.cell (p := ⟨g, o + k * 4 + 3, none⟩) hg).trans (hx 3 _ rfl)
      obtain ⟨ek, hek⟩ : ∃ x, x = l[k] := ⟨_, rfl⟩
      rw [← hek] at c0 c1 c2 c3
      have HK := Lib.hid hek
      have HB := Lib.hid hB
      have H0 := Lib.hid h0
      have H1 := Lib.hid h1
      clear hx hek hB h0 h1
      go_wp2_with fail
      refine (ends_pair _ _).mono ?_
      rintro e w1 ⟨rfl, hb1⟩
      have hc1 : ∀ b o, b < (wr.alloc (Obj.cells #[Value.int IntKind.i32 ek.r, Value.int IntKind.i32 ek.a, Value.int IntKind.i32 ek.b, Value.bool ek.one] 54)).heap.size → w1.cell? ⟨b, o, none⟩ = (wr.alloc (Obj.cells #[Value.int IntKind.i32 ek.r, Value.int IntKind.i32 ek.a, Value.int IntKind.i32 ek.b, Value.bool ek.one] 54)).cell? ⟨b, o, none⟩ := fun b o h => hb1.cell (p := ⟨b, o, none⟩) h
      have hf1 : ∀ b o, b < (wr.alloc (Obj.cells #[Value.int IntKind.i32 ek.r, Value.int IntKind.i32 ek.a, Value.int IntKind.i32 ek.b, Value.bool ek.one] 54)).heap.size → w1.frozen? ⟨b, o, none⟩ = (wr.alloc (Obj.cells #[Value.int IntKind.i32 ek.r, Value.int IntKind.i32 ek.a, Value.int IntKind.i32 ek.b, Value.bool ek.one] 54)).frozen? ⟨b, o, none⟩ := fun b o h => hb1.frozen (p := ⟨b, o, none⟩) h
      have hz1 : wr.heap.size < w1.heap.size := by have := hb1.size; simp at this; omega
      have HB1 : Hid (Below w.heap.size w w1) := Lib.hid ((HB.out.alloc (by omega) _).trans (hb1.mono (by simp; omega)))
      have HX0 : Hid (Has w1 w.heap.size (Obj.cells #[Value.slice (some ⟨g, o, none⟩) l.length cap, Value.func (Fn.func 144) #[] #[]] 119)) := Lib.hid ((H0.out.alloc _).to hb1)
      have HX1 : Hid (Has w1 (w.heap.size + 1) (Obj.cells #[Value.int IntKind.i32 0, Value.int IntKind.i32 0, Value.int IntKind.i32 0, Value.bool false] 54)) := Lib.hid ((H1.out.alloc _).to hb1)
      clear hb1
      have he : ¬ ek.r = r := by
        have := List.find?_eq_none.1 HY.out l[k] (List.getElem_mem hlt)
        rw [← HK.out] at this; simpa using this
      by_cases hle : ek.r ≤ r
      · have e1 : decide (ek.r ≤ r) = true := decide_eq_true (by omega)
        have e2 : decide (r ≤ ek.r) = false := decide_eq_false (by omega)
        go_wp2
        go_roundw
        case rel => exact ⟨k + 1, by omega, by go_num, HB1.out, HX0.out, HX1.out⟩
        case measure => simp [intOf]; omega
      · have e1 : decide (ek.r ≤ r) = false := decide_eq_false (by omega)
        go_wp2
        go_roundw
        case rel => exact ⟨k + 1, by omega, by go_num, HB1.out, HX0.out, HX1.out⟩
        case measure => simp [intOf]; omega
    · have HB := Lib.hid hB
      clear hB h0 h1
      go_wp2
      refine bodyPost_ret (v := .tuple #[.agg #[Value.int IntKind.i32 0, Value.int IntKind.i32 0, Value.int IntKind.i32 0, Value.bool false], .bool false]) (by simp [results, Tryz.results82, go_sem, d0, d1, d2, d3, hsz]) rfl ⟨rfl, ?_⟩
      exact ((((HB.out.setCell (p := ⟨_, 0, none⟩) (by simp) _).setCell (p := ⟨_, 1, none⟩) (by simp) _).setCell (p := ⟨_, 2, none⟩) (by simp) _).setCell (p := ⟨_, 3, none⟩) (by simp) _).alloc (by simp; omega) _
end Go.Proofs.YtlpkcpacfldfaaaGreat
namespace Go.Proofs.YtlpkcpacfldfaaaGreat
open Go.RowKit N
/-- the runes l lie in w where the slice v says -/
def RunesAt (w : World) (v : Value) (l : List Int) : Prop :=
  ∃ (p : Option Addr) (cap : Nat), v = .slice p l.length cap ∧ ∀ k x, l[k]? = some x → ∃ g o, p = some ⟨g, o, none⟩ ∧ g < w.heap.size ∧ w.cell? ⟨g, o + k, none⟩ = some (.int .i32 x)
theorem RunesAt.below {w w' : World} {v : Value} {l : List Int} (h : RunesAt w v l) (hb : Below w.heap.size w w') : RunesAt w' v l := by
  obtain ⟨p, cap, hv, hc⟩ := h
  refine ⟨p, cap, hv, fun k x hk => ?_⟩
  obtain ⟨g, o, hp, hg, hx⟩ := hc k x hk
  exact ⟨g, o, hp, Nat.lt_of_lt_of_le hg hb.size, (hb.cell (p := ⟨g, o + k, none⟩) hg).trans hx⟩
/-- the table q lies in w -/
structure TabAt (w : World) (q : TQ) : Prop where
  s : Lst w 4 encSp q.v0 q.T.spans
  c : Lst w 2 encCl q.v1 q.T.classes
  p : Lst w 4 encPa q.v2 q.T.pairs
  y : Lst w 3 encSg q.v3 q.T.ways
  j : Lst w 3 encSg q.v4 q.T.joins
  m : ∀ x ∈ q.T.spans, RunesAt w x.mv x.map
theorem TabAt.below {w w' : World} {q : TQ} (h : TabAt w q) (hb : Below w.heap.size w w') : TabAt w' q := ⟨h.s.below hb, h.c.below hb, h.p.below hb, h.y.below hb, h.j.below hb, fun x hx => (h.m x hx).below hb⟩
/-- a table's numbers are those of their kinds, its lists no longer than memory -/
structure Fit (T : Tab) : Prop where
  s : T.spans.length ≤ 35184372088320
  c : T.classes.length ≤ 35184372088320
  p : T.pairs.length ≤ 35184372088320
  y : T.ways.length ≤ 35184372088320
  j : T.joins.length ≤ 35184372088320
  cb : ∀ x ∈ T.classes, 0 ≤ x.c ∧ x.c ≤ 255
  sb : ∀ x ∈ T.spans, 0 ≤ x.st ∧ x.st ≤ 255
  yb : ∀ x ∈ T.ways, 0 ≤ x.k ∧ x.k ≤ 255
  jb : ∀ x ∈ T.joins, 0 ≤ x.k ∧ x.k ≤ 255
theorem Fit.cls {T : Tab} (h : Fit T) (r : Int) : 0 ≤ N.cls T r ∧ N.cls T r ≤ 255 := by
  unfold N.cls clsL
  split
  · rename_i x hx; exact h.cb x (List.mem_of_find?_eq_some hx)
  · exact ⟨by decide, by decide⟩
set_option maxHeartbeats 1000000 in
theorem class_is (q : TQ) (r c : Int) (hc : N.cls q.T r = c) (w : World) (h : TabAt w q) (hf : Fit q.T) : Calls Tryz.prog 27 #[q.v, .int .i32 r] w fun e w' => e = .returned (.int .u8 c) ∧ Below w.heap.size w w' := by
  have hl : q.T.classes.length ≤ maxLen := by have := hf.c; unfold maxLen; omega
  unfold N.cls clsL at hc
  cases hy : q.T.classes.find? (fun x => x.r == r) with
  | some y =>
    rw [hy] at hc
    simp only at hc
    subst hc
    have HA := Lib.hid h
    have HY := Lib.hid hy
    have HL := Lib.hid hl
    clear h hf hy hl
    go_enter Tryz.func27, Tryz.ntmps27
    go_wp2_with fail
    refine (classes_any q _).mono ?_
    rintro e w1 ⟨rfl, hb1⟩
    have hb2 := (bnew w (Obj.cells q.cs 28)).trans (hb1.mono (by simp))
    go_wp2_with fail
    refine (find_class_some _ q.T.classes r _ HL.out (HA.out.c.below hb2) y HY.out).mono ?_
    rintro e w2 ⟨rfl, hb3⟩
    go_wp2
    go_ret
    exact ⟨rfl, (bel2 hb2 hb3).alloc (bel2 hb2 hb3).size _⟩
  | none =>
    rw [hy] at hc
    simp only at hc
    subst hc
    have HA := Lib.hid h
    have HY := Lib.hid hy
    have HL := Lib.hid hl
    clear h hf hy hl
    go_enter Tryz.func27, Tryz.ntmps27
    go_wp2_with fail
    refine (classes_any q _).mono ?_
    rintro e w1 ⟨rfl, hb1⟩
    have hb2 := (bnew w (Obj.cells q.cs 28)).trans (hb1.mono (by simp))
    go_wp2_with fail
    refine (find_class_none _ q.T.classes r _ HL.out (HA.out.c.below hb2) HY.out).mono ?_
    rintro e w2 ⟨rfl, hb3⟩
    go_wp2
    go_ret
    exact ⟨rfl, (bel2 hb2 hb3).alloc (bel2 hb2 hb3).size _⟩
set_option maxHeartbeats 1000000 in
theorem pair_some (q : TQ) (r : Int) (y : Pa) (hy : prL q.T.pairs r = some y) (w : World) (h : TabAt w q) (hf : Fit q.T) : Calls Tryz.prog 38 #[q.v, .int .i32 r] w fun e w' => e = .returned (.tuple #[.agg #[.int .i32 y.r, .int .i32 y.a, .int .i32 y.b, .bool y.one], .bool true]) ∧ Below w.heap.size w w' := by
  have hl : q.T.pairs.length ≤ maxLen := by have := hf.p; unfold maxLen; omega
  unfold prL at hy
  have HA := Lib.hid h
  have HY := Lib.hid hy
  have HL := Lib.hid hl
  clear h hf hy hl
  go_enter Tryz.func38, Tryz.ntmps38
  go_wp2_with fail
  have hH := Has.new (w.alloc (Obj.cells q.cs 28)) (Obj.cells #[Value.int IntKind.i32 0, Value.int IntKind.i32 0, Value.int IntKind.i32 0, Value.bool false] 54)
  rw [World.size_alloc] at hH
  refine (pairs_any q _).mono ?_
  rintro e w1 ⟨rfl, hb1⟩
  have hb2 := ((bnew w (Obj.cells q.cs 28)).alloc (by simp) (Obj.cells #[Value.int IntKind.i32 0, Value.int IntKind.i32 0, Value.int IntKind.i32 0, Value.bool false] 54)).trans (hb1.mono (by simp; omega))
  have hH1 := hH.to hb1
  go_wp2_with fail
  refine (find_pair_some _ q.T.pairs r _ HL.out (HA.out.p.below hb2) y HY.out).mono ?_
  rintro e w2 ⟨rfl, hb3⟩
  have hH2 := hH1.to hb3
  have d0 : w2.cell? ⟨w.heap.size + 1, 0, none⟩ = some (.int .i32 0) := hH2.cell 0 rfl
  have d1 : w2.cell? ⟨w.heap.size + 1, 1, none⟩ = some (.int .i32 0) := hH2.cell 1 rfl
  have d2 : w2.cell? ⟨w.heap.size + 1, 2, none⟩ = some (.int .i32 0) := hH2.cell 2 rfl
  have d3 : w2.cell? ⟨w.heap.size + 1, 3, none⟩ = some (.bool false) := hH2.cell 3 rfl
  have f0 := hH2.free 0
  have f1 := hH2.free 1
  have f2 := hH2.free 2
  have f3 := hH2.free 3
  have HB := Lib.hid (bel2 hb2 hb3)
  clear hH hH1 hH2 hb1 hb2 hb3
  go_wp2
  refine bodyPost_ret (v := .tuple #[.agg #[.int .i32 y.r, .int .i32 y.a, .int .i32 y.b, .bool y.one], .bool true]) (by simp [results, Tryz.results38, go_sem, d0, d1, d2, d3]) rfl ⟨rfl, ?_⟩
  exact (((HB.out.setCell (p := ⟨_, 0, none⟩) (by simp) _).setCell (p := ⟨_, 1, none⟩) (by simp) _).setCell (p := ⟨_, 2, none⟩) (by simp) _).setCell (p := ⟨_, 3, none⟩) (by simp) _
set_option maxHeartbeats 1000000 in
theorem pair_none (q : TQ) (r : Int) (hy : prL q.T.pairs r = none) (w : World) (h : TabAt w q) (hf : Fit q.T) : Calls Tryz.prog 38 #[q.v, .int .i32 r] w fun e w' => e = .returned (.tuple #[.agg #[.int .i32 0, .int .i32 0, .int .i32 0, .bool false], .bool false]) ∧ Below w.heap.size w w' := by
  have hl : q.T.pairs.length ≤ maxLen := by have := hf.p; unfold maxLen; omega
  unfold prL at hy
  have HA := Lib.hid h
  have HY := Lib.hid hy
  have HL := Lib.hid hl
  clear h hf hy hl
  go_enter Tryz.func38, Tryz.ntmps38
  go_wp2_with fail
  have hH := Has.new (w.alloc (Obj.cells q.cs 28)) (Obj.cells #[Value.int IntKind.i32 0, Value.int IntKind.i32 0, Value.int IntKind.i32 0, Value.bool false] 54)
  rw [World.size_alloc] at hH
  refine (pairs_any q _).mono ?_
  rintro e w1 ⟨rfl, hb1⟩
  have hb2 := ((bnew w (Obj.cells q.cs 28)).alloc (by simp) (Obj.cells #[Value.int IntKind.i32 0, Value.int IntKind.i32 0, Value.int IntKind.i32 0, Value.bool false] 54)).trans (hb1.mono (by simp; omega))
  have hH1 := hH.to hb1
  go_wp2_with fail
  refine (find_pair_none _ q.T.pairs r _ HL.out (HA.out.p.below hb2) HY.out).mono ?_
  rintro e w2 ⟨rfl, hb3⟩
  have hH2 := hH1.to hb3
  have d0 : w2.cell? ⟨w.heap.size + 1, 0, none⟩ = some (.int .i32 0) := hH2.cell 0 rfl
  have d1 : w2.cell? ⟨w.heap.size + 1, 1, none⟩ = some (.int .i32 0) := hH2.cell 1 rfl
  have d2 : w2.cell? ⟨w.heap.size + 1, 2, none⟩ = some (.int .i32 0) := hH2.cell 2 rfl
  have d3 : w2.cell? ⟨w.heap.size + 1, 3, none⟩ = some (.bool false) := hH2.cell 3 rfl
  have f0 := hH2.free 0
  have f1 := hH2.free 1
  have f2 := hH2.free 2
  have f3 := hH2.free 3
  have HB := Lib.hid (bel2 hb2 hb3)
  clear hH hH1 hH2 hb1 hb2 hb3
  go_wp2
  refine bodyPost_ret (v := .tuple #[.agg #[.int .i32 0, .int .i32 0, .int .i32 0, .bool false], .bool false]) (by simp [results, Tryz.results38, go_sem, d0, d1, d2, d3]) rfl ⟨rfl, ?_⟩
  exact (((HB.out.setCell (p := ⟨_, 0, none⟩) (by simp) _).setCell (p := ⟨_, 1, none⟩) (by simp) _).setCell (p := ⟨_, 2, none⟩) (by simp) _).setCell (p := ⟨_, 3, none⟩) (by simp) _
/-! tables.Put -/
def putB (a b : Int) (x : Pa) : Bool := !x.one && (x.a == a && x.b == b)
set_option maxHeartbeats 4000000 in
theorem put_is (q : TQ) (a b : Int) (o : Option Int) (ho : ptL q.T.pairs a b = o) (w : World) (h : TabAt w q) (hf : Fit q.T) : Calls Tryz.prog 39 #[q.v, .int .i32 a, .int .i32 b] w fun e w' => e = .returned (.tuple #[.int .i32 (o.getD 0), .bool o.isSome]) ∧ Below w.heap.size w w' := by
  have hl : q.T.pairs.length ≤ maxLen := by have := hf.p; unfold maxLen; omega
  unfold maxLen at hl
  obtain ⟨p, cap, hpv, hn, hc⟩ := h.p
  simp only [TQ.v2, Value.slice.injEq] at hpv
  obtain ⟨rfl, _, rfl⟩ := hpv
  have HC := Lib.hid hc
  clear hc hn h hf
  unfold ptL at ho
  by_cases hb0 : b = 0
  · rw [if_pos hb0] at ho
    subst ho hb0
    go_enter Tryz.func39, Tryz.ntmps39
    go_wp2
    go_ret2
    exact ⟨rfl, bnew _ _⟩
  · rw [if_neg hb0] at ho
    have HO : Hid ((q.T.pairs.find? (putB a b)).map (·.r) = o) := Lib.hid ho
    have hbz : (b == 0) = false := by simpa using hb0
    clear ho hb0
    go_enter Tryz.func39, Tryz.ntmps39
    go_wp2
    have hH0 := Has.new w (Obj.cells q.cs 28)
    have hbW := bnew w (Obj.cells q.cs 28)
    go_loopw [15] (fun i wr => ∃ k : Nat, k ≤ q.T.pairs.length ∧ i = .int .i64 k ∧ Hid ((q.T.pairs.take k).find? (putB a b) = none) ∧ Below w.heap.size w wr) (fun i _ => q.T.pairs.length - (intOf i).toNat)
    case atStart => exact ⟨0, Nat.zero_le _, rfl, Lib.hid rfl, hbW⟩
    case round =>
      obtain ⟨k, hk, rfl, HN, hB⟩ := hrel
      clear hH0 hbW
      by_cases hlt : k < q.T.pairs.length
      · obtain ⟨g, of, hp, hg, hx⟩ := HC.out k q.T.pairs[k] (List.getElem?_eq_getElem hlt)
        have c0 := (hB.cell (p := ⟨g, of + k * 4, none⟩) hg).trans (hx 0 _ rfl)
        have c1 := (hB.cell (p := ⟨g, of + k * 4 + 1, none⟩) hg).trans (hx 1 _ rfl)
        have c2 := (hB.cell (p := ⟨g, of + k * 4 + 2, none⟩) hg).trans (hx 2 _ rfl)
        have c3 := (hB.cell (p := ⟨g, of + k * 4 + 3, none⟩) hg).trans (hx 3 _ rfl)
        obtain ⟨ek, hek⟩ : ∃ x, x = q.T.pairs[k] := ⟨_, rfl⟩
        rw [← hek] at c0 c1 c2 c3
        have HK := Lib.hid hek
        have HB := Lib.hid hB
        clear hx hek hB
        have step : putB a b ek = false → Hid ((q.T.pairs.take (k + 1)).find? (putB a b) = none) := fun hf => Lib.hid (find_none hlt HN.out (by rw [← HK.out]; exact hf))
        have STEP := Lib.hid step
        clear step
        by_cases h1 : ek.one = true
        · have HS := STEP.out (by simp [putB, h1])
          go_wp2
          go_roundw
          case rel => exact ⟨k + 1, by omega, by go_num, HS, HB.out.alloc HB.out.size _⟩
          case measure => simp [intOf]; omega
        · have h1' : ek.one = false := by simpa using h1
          clear h1
          by_cases h2 : ek.a = a
          · have e2 : (ek.a == a) = true := by simpa using h2
            by_cases h3 : ek.b = b
            · have e3 : (ek.b == b) = true := by simpa using h3
              have HE : Hid (o = some ek.r) := Lib.hid (by
                have := find_here (f := putB a b) hlt HN.out (by rw [← HK.out]; simp [putB, h1', h2, h3])
                rw [← HO.out, this, ← HK.out]; rfl)
              clear h2 h3
              go_wp2
              go_ret2
              exact ⟨by rw [HE.out]; rfl, HB.out.alloc HB.out.size _⟩
            · have e3 : (ek.b == b) = false := by simpa using h3
              have HS := STEP.out (by simp [putB, h1', h3])
              clear h2 h3
              go_wp2
              go_roundw
              case rel => exact ⟨k + 1, by omega, by go_num, HS, HB.out.alloc HB.out.size _⟩
              case measure => simp [intOf]; omega
          · have e2 : (ek.a == a) = false := by simpa using h2
            have HS := STEP.out (by simp [putB, h1', h2])
            clear h2
            go_wp2
            go_roundw
            case rel => exact ⟨k + 1, by omega, by go_num, HS, HB.out.alloc HB.out.size _⟩
            case measure => simp [intOf]; omega
      · have HE : Hid (o = none) := Lib.hid (by
          have := HN.out
          rw [List.take_of_length_le (by omega)] at this
          rw [← HO.out, this]; rfl)
        go_wp2
        go_ret2
        exact ⟨by rw [HE.out]; rfl, hB⟩
end Go.Proofs.YtlpkcpacfldfaaaGreat
namespace Go.Proofs.YtlpkcpacfldfaaaGreat
open Go.RowKit N
theorem ret_ib {k : IntKind} {a b : Int} {x y : Bool} (h : a = b) (h2 : x = y) : Ending.returned (.tuple #[.int k a, .bool x]) = Ending.returned (.tuple #[.int k b, .bool y]) := by rw [h, h2]
set_option maxHeartbeats 400000 in
theorem issyl_any (r : Int) (w : World) : Calls Tryz.prog 181 #[.int .i32 r] w fun e w' => e = .returned (.bool (syl r)) ∧ w = w' := by
  have H : Hid (syl r = (decide (44032 ≤ r) && decide (r ≤ 55203))) := Lib.hid rfl
  by_cases h0 : 44032 ≤ r
  · by_cases h1 : r ≤ 55203
    · go_enter Tryz.func181, Tryz.ntmps181
      go_wp2
      go_ret
      exact ⟨ret_bool (by rw [H.out]; simp [h0, h1]), rfl⟩
    · go_enter Tryz.func181, Tryz.ntmps181
      go_wp2
      go_ret
      exact ⟨ret_bool (by rw [H.out]; simp [h1]), rfl⟩
  · go_enter Tryz.func181, Tryz.ntmps181
    go_wp2
    go_ret
    exact ⟨ret_bool (by rw [H.out]; simp; omega), rfl⟩
theorem issyl_is (r : Int) (b : Bool) (h : syl r = b) (w : World) : Calls Tryz.prog 181 #[.int .i32 r] w fun e w' => e = .returned (.bool b) ∧ w = w' := by rw [← h]; exact issyl_any r w
set_option maxHeartbeats 400000 in
theorem within_any (a n : Int) (w : World) : Calls Tryz.prog 229 #[.int .i32 a, .int .i32 n] w fun e w' => e = .returned (.bool (decide (0 ≤ a ∧ a < n))) ∧ w = w' := by
  by_cases h0 : 0 ≤ a
  · by_cases h1 : a < n
    · have H : Hid (decide (0 ≤ a ∧ a < n) = true) := Lib.hid (decide_eq_true ⟨h0, h1⟩)
      go_enter Tryz.func229, Tryz.ntmps229
      go_wp2
      go_ret
      exact ⟨ret_bool (by rw [H.out]), rfl⟩
    · have H : Hid (decide (0 ≤ a ∧ a < n) = false) := Lib.hid (decide_eq_false (by omega))
      go_enter Tryz.func229, Tryz.ntmps229
      go_wp2
      go_ret
      exact ⟨ret_bool (by simp; omega), rfl⟩
  · have H : Hid (decide (0 ≤ a ∧ a < n) = false) := Lib.hid (decide_eq_false (by omega))
    go_enter Tryz.func229, Tryz.ntmps229
    go_wp2
    go_ret
    exact ⟨ret_bool (by simp; omega), rfl⟩
theorem within_is (a n : Int) (b : Bool) (h : decide (0 ≤ a ∧ a < n) = b) (w : World) : Calls Tryz.prog 229 #[.int .i32 a, .int .i32 n] w fun e w' => e = .returned (.bool b) ∧ w = w' := by rw [← h]; exact within_any a n w
theorem w32 (a : Int) (k : Int) (ha : -2147483648 ≤ a) (hb : a ≤ 2147483647) (hk : 0 ≤ k) (hk2 : k ≤ 5000) (m : Int) (hm0 : 0 ≤ m) (hm : m ≤ 100) : decide (0 ≤ wrap32 (a - k) ∧ wrap32 (a - k) < m) = decide (k ≤ a ∧ a < k + m) := by
  have e : wrap32 (a - k) = a - k ∨ (wrap32 (a - k) = a - k + 4294967296 ∧ a - k < -2147483648) := by
    unfold wrap32; omega
  rcases e with e | ⟨e, h⟩ <;> rw [e] <;> congr 1 <;> apply propext <;> omega
def HangOut (a b : Int) (e : Ending) : Prop := e = .returned (.tuple #[.int .i32 ((hang a b).getD 0), .bool (hang a b).isSome])
theorem hang_a {a b : Int} (h : 4352 ≤ a ∧ a < 4371 ∧ 4449 ≤ b ∧ b < 4470) : hang a b = some (44032 + ((a - 4352) * 21 + (b - 4449)) * 28) := by unfold hang; rw [if_pos h]
theorem hang_b {a b : Int} (h : ¬ (4352 ≤ a ∧ a < 4371 ∧ 4449 ≤ b ∧ b < 4470)) (h2 : syl a = true ∧ (a - 44032) % 28 = 0 ∧ 4519 < b ∧ b < 4547) : hang a b = some (a + (b - 4519)) := by unfold hang; rw [if_neg h, if_pos h2]
theorem hang_c {a b : Int} (h : ¬ (4352 ≤ a ∧ a < 4371 ∧ 4449 ≤ b ∧ b < 4470)) (h2 : ¬ (syl a = true ∧ (a - 44032) % 28 = 0 ∧ 4519 < b ∧ b < 4547)) : hang a b = none := by unfold hang; rw [if_neg h, if_neg h2]
set_option maxHeartbeats 2000000 in
theorem syllable_a (a b : Int) (h1 : 4352 ≤ a) (h2 : a < 4371) (h3 : 4449 ≤ b) (h4 : b < 4470) (w : World) : Calls Tryz.prog 185 #[.int .i32 a, .int .i32 b] w fun e w' => HangOut a b e ∧ w = w' := by
  have HH := Lib.hid (hang_a ⟨h1, h2, h3, h4⟩)
  unfold HangOut
  go_enter Tryz.func185, Tryz.ntmps185
  go_wp2_with fail
  refine (within_is _ _ true (decide_eq_true (by omega)) _).mono ?_
  rintro e w' ⟨rfl, rfl⟩
  go_wp2_with fail
  refine (within_is _ _ true (decide_eq_true (by omega)) _).mono ?_
  rintro e w' ⟨rfl, rfl⟩
  go_wp2
  go_ret2
  exact ⟨by rw [HH.out]; rfl, rfl⟩
set_option maxHeartbeats 4000000 in
theorem syllable_rest (a b : Int) (ha : (Lit.int .i32 a).wf = true) (hb : (Lit.int .i32 b).wf = true) (h : ¬ (4352 ≤ a ∧ a < 4371 ∧ 4449 ≤ b ∧ b < 4470)) (w : World) : Calls Tryz.prog 185 #[.int .i32 a, .int .i32 b] w fun e w' => HangOut a b e ∧ w = w' := by
  have ha' : -2147483648 ≤ a ∧ a ≤ 2147483647 := by simpa [Lit.wf, IntKind.min, IntKind.max, IntKind.signed, IntKind.bits] using ha
  have hb' : -2147483648 ≤ b ∧ b ≤ 2147483647 := by simpa [Lit.wf, IntKind.min, IntKind.max, IntKind.signed, IntKind.bits] using hb
  have L : Hid (∀ m : Int, 0 ≤ m → m ≤ 100 → decide (0 ≤ wrap32 (a - 4352) ∧ wrap32 (a - 4352) < m) = decide (4352 ≤ a ∧ a < 4352 + m)) := Lib.hid fun m h0 h1 => w32 a 4352 ha'.1 ha'.2 (by omega) (by omega) m h0 h1
  have V : Hid (∀ m : Int, 0 ≤ m → m ≤ 100 → decide (0 ≤ wrap32 (b - 4449) ∧ wrap32 (b - 4449) < m) = decide (4449 ≤ b ∧ b < 4449 + m)) := Lib.hid fun m h0 h1 => w32 b 4449 hb'.1 hb'.2 (by omega) (by omega) m h0 h1
  have T : Hid (∀ m : Int, 0 ≤ m → m ≤ 100 → decide (0 ≤ wrap32 (b - 4519) ∧ wrap32 (b - 4519) < m) = decide (4519 ≤ b ∧ b < 4519 + m)) := Lib.hid fun m h0 h1 => w32 b 4519 hb'.1 hb'.2 (by omega) (by omega) m h0 h1
  have TZ : Hid (wrap32 (b - 4519) = 0 ↔ b = 4519) := Lib.hid (by unfold wrap32; omega)
  have HR := Lib.hid (And.intro ha' hb')
  have HH := Lib.hid h
  clear ha hb ha' hb' h
  unfold HangOut
  by_cases hl : 4352 ≤ a ∧ a < 4352 + 19
  · have hin1 : decide (0 ≤ wrap32 (a - 4352) ∧ wrap32 (a - 4352) < 19) = true := by rw [L.out 19 (by omega) (by omega)]; exact decide_eq_true hl
    have hin2 : decide (0 ≤ wrap32 (b - 4449) ∧ wrap32 (b - 4449) < 21) = false := by
      rw [V.out 21 (by omega) (by omega)]
      refine decide_eq_false (fun k => HH.out ?_)
      omega
    have HL := Lib.hid (And.intro hin1 hin2)
    clear hl hin1 hin2
    go_enter Tryz.func185, Tryz.ntmps185
    go_wp2_with fail
    refine (within_is _ _ true HL.out.1 _).mono ?_
    rintro e w' ⟨rfl, rfl⟩
    go_wp2_with fail
    refine (within_is _ _ false HL.out.2 _).mono ?_
    rintro e w' ⟨rfl, rfl⟩
    by_cases hs : syl a = true
    · have HSY := Lib.hid hs
      have hsr : 44032 ≤ a ∧ a ≤ 55203 := by simpa [syl] using hs
      have ws : wrap32 (a - 44032) = a - 44032 := by unfold wrap32; omega
      have wt : (a - 44032).tmod 28 = (a - 44032) % 28 := Int.tmod_eq_emod_of_nonneg (by omega)
      have HSR := Lib.hid hsr
      clear hs hsr
      go_wp2_with fail
      refine (issyl_is a true HSY.out _).mono ?_
      rintro e w' ⟨rfl, rfl⟩
      by_cases hm : (a - 44032) % 28 = 0
      · have hm1 : ((a - 44032) % 28 == 0) = true := by simpa using hm
        have HM := Lib.hid hm
        by_cases hb0 : b = 4519
        · have hb1 : (wrap32 (b - 4519) != 0) = false := by have := TZ.out.2 hb0; simp [this]
          have HC := Lib.hid (hang_c HH.out (fun k => by omega))
          clear hm hb0
          go_wp2
          go_ret2
          exact ⟨by rw [HC.out]; rfl, rfl⟩
        · have hb1 : (wrap32 (b - 4519) != 0) = true := by
            have : ¬ wrap32 (b - 4519) = 0 := fun k => hb0 (TZ.out.1 k)
            simpa using this
          by_cases hbt : 4519 ≤ b ∧ b < 4519 + 28
          · have HC := Lib.hid (hang_b HH.out ⟨HSY.out, hm, by omega, by omega⟩)
            have HBT := Lib.hid hbt
            have wv : wrap32 (b - 4519) = b - 4519 := by unfold wrap32; omega
            have hb1' : (b - 4519 != 0) = true := by rw [← wv]; exact hb1
            have wsum : wrap32 (a + (b - 4519)) = a + (b - 4519) := by have := HSR.out; unfold wrap32; omega
            have hin : decide (0 ≤ b - 4519 ∧ b - 4519 < 28) = true := decide_eq_true (by omega)
            clear hm hb0 hbt hb1
            go_wp2_with fail
            refine (within_is _ _ true hin _).mono ?_
            rintro e w' ⟨rfl, rfl⟩
            go_wp2
            go_ret2
            exact ⟨by rw [HC.out]; exact ret_ib wsum rfl, rfl⟩
          · have HC := Lib.hid (hang_c HH.out (fun k => hbt ⟨by omega, by omega⟩))
            have hin : decide (0 ≤ wrap32 (b - 4519) ∧ wrap32 (b - 4519) < 28) = false := by rw [T.out 28 (by omega) (by omega)]; exact decide_eq_false hbt
            clear hm hb0 hbt
            go_wp2_with fail
            refine (within_is _ _ false hin _).mono ?_
            rintro e w' ⟨rfl, rfl⟩
            go_wp2
            go_ret2
            exact ⟨by rw [HC.out]; rfl, rfl⟩
      · have hm1 : ((a - 44032) % 28 == 0) = false := by simpa using hm
        have HC := Lib.hid (hang_c HH.out (fun k => hm k.2.1))
        clear hm
        go_wp2
        go_ret2
        exact ⟨by rw [HC.out]; rfl, rfl⟩
    · have hs' : syl a = false := by simpa using hs
      have HSY := Lib.hid hs'
      have HC := Lib.hid (hang_c HH.out (fun k => hs k.1))
      clear hs hs'
      go_wp2_with fail
      refine (issyl_is a false HSY.out _).mono ?_
      rintro e w' ⟨rfl, rfl⟩
      go_wp2
      go_ret2
      exact ⟨by rw [HC.out]; rfl, rfl⟩
  · have hin1 : decide (0 ≤ wrap32 (a - 4352) ∧ wrap32 (a - 4352) < 19) = false := by rw [L.out 19 (by omega) (by omega)]; exact decide_eq_false hl
    have HL := Lib.hid hin1
    clear hl hin1
    go_enter Tryz.func185, Tryz.ntmps185
    go_wp2_with fail
    refine (within_is _ _ false HL.out _).mono ?_
    rintro e w' ⟨rfl, rfl⟩
    by_cases hs : syl a = true
    · have HSY := Lib.hid hs
      have hsr : 44032 ≤ a ∧ a ≤ 55203 := by simpa [syl] using hs
      have ws : wrap32 (a - 44032) = a - 44032 := by unfold wrap32; omega
      have wt : (a - 44032).tmod 28 = (a - 44032) % 28 := Int.tmod_eq_emod_of_nonneg (by omega)
      have HSR := Lib.hid hsr
      clear hs hsr
      go_wp2_with fail
      refine (issyl_is a true HSY.out _).mono ?_
      rintro e w' ⟨rfl, rfl⟩
      by_cases hm : (a - 44032) % 28 = 0
      · have hm1 : ((a - 44032) % 28 == 0) = true := by simpa using hm
        have HM := Lib.hid hm
        by_cases hb0 : b = 4519
        · have hb1 : (wrap32 (b - 4519) != 0) = false := by have := TZ.out.2 hb0; simp [this]
          have HC := Lib.hid (hang_c HH.out (fun k => by omega))
          clear hm hb0
          go_wp2
          go_ret2
          exact ⟨by rw [HC.out]; rfl, rfl⟩
        · have hb1 : (wrap32 (b - 4519) != 0) = true := by
            have : ¬ wrap32 (b - 4519) = 0 := fun k => hb0 (TZ.out.1 k)
            simpa using this
          by_cases hbt : 4519 ≤ b ∧ b < 4519 + 28
          · have HC := Lib.hid (hang_b HH.out ⟨HSY.out, hm, by omega, by omega⟩)
            have HBT := Lib.hid hbt
            have wv : wrap32 (b - 4519) = b - 4519 := by unfold wrap32; omega
            have hb1' : (b - 4519 != 0) = true := by rw [← wv]; exact hb1
            have wsum : wrap32 (a + (b - 4519)) = a + (b - 4519) := by have := HSR.out; unfold wrap32; omega
            have hin : decide (0 ≤ b - 4519 ∧ b - 4519 < 28) = true := decide_eq_true (by omega)
            clear hm hb0 hbt hb1
            go_wp2_with fail
            refine (within_is _ _ true hin _).mono ?_
            rintro e w' ⟨rfl, rfl⟩
            go_wp2
            go_ret2
            exact ⟨by rw [HC.out]; exact ret_ib wsum rfl, rfl⟩
          · have HC := Lib.hid (hang_c HH.out (fun k => hbt ⟨by omega, by omega⟩))
            have hin : decide (0 ≤ wrap32 (b - 4519) ∧ wrap32 (b - 4519) < 28) = false := by rw [T.out 28 (by omega) (by omega)]; exact decide_eq_false hbt
            clear hm hb0 hbt
            go_wp2_with fail
            refine (within_is _ _ false hin _).mono ?_
            rintro e w' ⟨rfl, rfl⟩
            go_wp2
            go_ret2
            exact ⟨by rw [HC.out]; rfl, rfl⟩
      · have hm1 : ((a - 44032) % 28 == 0) = false := by simpa using hm
        have HC := Lib.hid (hang_c HH.out (fun k => hm k.2.1))
        clear hm
        go_wp2
        go_ret2
        exact ⟨by rw [HC.out]; rfl, rfl⟩
    · have hs' : syl a = false := by simpa using hs
      have HSY := Lib.hid hs'
      have HC := Lib.hid (hang_c HH.out (fun k => hs k.1))
      clear hs hs'
      go_wp2_with fail
      refine (issyl_is a false HSY.out _).mono ?_
      rintro e w' ⟨rfl, rfl⟩
      go_wp2
      go_ret2
      exact ⟨by rw [HC.out]; rfl, rfl⟩
theorem syllable_is (a b : Int) (ha : (Lit.int .i32 a).wf = true) (hb : (Lit.int .i32 b).wf = true) (o : Option Int) (ho : hang a b = o) (w : World) : Calls Tryz.prog 185 #[.int .i32 a, .int .i32 b] w fun e w' => e = .returned (.tuple #[.int .i32 (o.getD 0), .bool o.isSome]) ∧ w = w' := by
  subst ho
  by_cases h : 4352 ≤ a ∧ a < 4371 ∧ 4449 ≤ b ∧ b < 4470
  · exact syllable_a a b h.1 h.2.1 h.2.2.1 h.2.2.2 w
  · exact syllable_rest a b ha hb h w
end Go.Proofs.YtlpkcpacfldfaaaGreat
namespace Go.Proofs.YtlpkcpacfldfaaaGreat
open Go.RowKit N
/-- the runes of l are int32 -/
def Wf32 (l : List Int) : Prop := ∀ x ∈ l, (Lit.int .i32 x).wf = true
abbrev GC (q : TQ) (outv : Value) (st last : Int) : Array Value := #[.slice q.p0 q.T.spans.length q.c0, .slice q.p1 q.T.classes.length q.c1, .slice q.p2 q.T.pairs.length q.c2, .slice q.p3 q.T.ways.length q.c3, .slice q.p4 q.T.joins.length q.c4, outv, .int .i64 st, .int .u8 last]
set_option maxHeartbeats 1000000 in
theorem whole_is (g : Nat) (q : TQ) (outv : Value) (st last : Int) (a b : Int) (ha : (Lit.int .i32 a).wf = true) (hb : (Lit.int .i32 b).wf = true) (o : Option Int) (ho : both q.T a b = o) (w : World) (hG : Has w g (.cells (GC q outv st last) 84)) (h : TabAt w q) (hf : Fit q.T) :
    Calls Tryz.prog 109 #[.pointer (some ⟨g, 0, none⟩), .int .i32 a, .int .i32 b] w fun e w' => e = .returned (.tuple #[.int .i32 (o.getD 0), .bool o.isSome]) ∧ Below w.heap.size w w' := by
  have c0 : w.cell? ⟨g, 0, none⟩ = some (.slice q.p0 q.T.spans.length q.c0) := hG.cell 0 rfl
  have c1 : w.cell? ⟨g, 1, none⟩ = some (.slice q.p1 q.T.classes.length q.c1) := hG.cell 1 rfl
  have c2 : w.cell? ⟨g, 2, none⟩ = some (.slice q.p2 q.T.pairs.length q.c2) := hG.cell 2 rfl
  have c3 : w.cell? ⟨g, 3, none⟩ = some (.slice q.p3 q.T.ways.length q.c3) := hG.cell 3 rfl
  have c4 : w.cell? ⟨g, 4, none⟩ = some (.slice q.p4 q.T.joins.length q.c4) := hG.cell 4 rfl
  unfold both at ho
  cases hh : hang a b with
  | some x =>
    rw [hh] at ho
    simp only at ho
    subst ho
    have HH := Lib.hid hh
    have HW := Lib.hid (And.intro ha hb)
    clear hh ha hb h hf hG
    go_enter Tryz.func109, Tryz.ntmps109
    go_wp2_with fail
    refine (syllable_is a b HW.out.1 HW.out.2 (some x) HH.out _).mono ?_
    rintro e w' ⟨rfl, rfl⟩
    go_wp2
    go_ret2
    exact ⟨rfl, Below.refl _ _⟩
  | none =>
    rw [hh] at ho
    simp only at ho
    have HH := Lib.hid hh
    have HO := Lib.hid ho
    have HW := Lib.hid (And.intro ha hb)
    have HT := Lib.hid (And.intro h hf)
    clear hh ha hb h hf hG ho
    go_enter Tryz.func109, Tryz.ntmps109
    go_wp2_with fail
    refine (syllable_is a b HW.out.1 HW.out.2 none HH.out _).mono ?_
    rintro e w' ⟨rfl, rfl⟩
    go_wp2_with fail
    refine (put_is q a b o HO.out _ HT.out.1 HT.out.2).mono ?_
    rintro e w' ⟨rfl, hb1⟩
    go_wp2
    go_ret2
    exact ⟨rfl, hb1⟩
set_option maxHeartbeats 1000000 in
theorem reached_is (g : Nat) (q : TQ) (p : Option Addr) (n cap : Nat) (hn : n ≤ 140737488355328) (st last c : Int) (hst : -1 ≤ st ∧ st < n) (b : Bool) (hb : decide (0 ≤ st ∧ (st = (n : Int) - 1 ∨ last < c)) = b) (w : World) (hG : Has w g (.cells (GC q (.slice p n cap) st last) 84)) :
    Calls Tryz.prog 108 #[.pointer (some ⟨g, 0, none⟩), .int .u8 c] w fun e w' => e = .returned (.bool b) ∧ Below w.heap.size w w' := by
  have c5 : w.cell? ⟨g, 5, none⟩ = some (.slice p n cap) := hG.cell 5 rfl
  have c6 : w.cell? ⟨g, 6, none⟩ = some (.int .i64 st) := hG.cell 6 rfl
  have c7 : w.cell? ⟨g, 7, none⟩ = some (.int .u8 last) := hG.cell 7 rfl
  clear hG
  obtain ⟨h1, h2⟩ := hst
  by_cases h0 : st < 0
  · have HB : Hid (b = false) := Lib.hid (by rw [← hb]; exact decide_eq_false (by omega))
    clear hb
    go_enter Tryz.func108, Tryz.ntmps108
    go_wp2
    go_ret
    exact ⟨by rw [HB.out]; rfl, Below.refl _ _⟩
  · have h0' : ¬ st < 0 := h0
    have wn : IntKind.i64.wrap ((n : Int) - 1) = (n : Int) - 1 := IntWalk.i64_in _ (by omega)
    by_cases h3 : st = (n : Int) - 1
    · have e3 : (st == (n : Int) - 1) = true := by simpa using h3
      have HB : Hid (b = true) := Lib.hid (by rw [← hb]; exact decide_eq_true ⟨by omega, .inl h3⟩)
      clear hb h3
      go_enter Tryz.func108, Tryz.ntmps108
      go_wp2
      go_quiet (fail)
      go_wp2
      go_ret
      exact ⟨by rw [HB.out]; rfl, below_dn (Below.refl _ _) _⟩
    · have e3 : (st == (n : Int) - 1) = false := by simpa using h3
      have HB : Hid (b = decide (last < c)) := Lib.hid (by rw [← hb]; congr 1; apply propext; omega)
      clear hb h3
      go_enter Tryz.func108, Tryz.ntmps108
      go_wp2
      go_quiet (fail)
      go_wp2
      go_ret
      exact ⟨by rw [HB.out]; rfl, below_dn (Below.refl _ _) _⟩
end Go.Proofs.YtlpkcpacfldfaaaGreat
