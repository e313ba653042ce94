import Derived.Test.YtflddokngplgiaaDoorA11M
import Derived.Lib.SliceRun
import Derived.Laws.Rows
import Derived.DeepKeys
import Derived.Laws.StructEq
namespace Go.Proofs.YtflddokngplgiaaDoor
open Go.RowKit
/-- eight pieces as a value's cells -/
def A8 (l : List Nat) : Array Value := (l.map (fun x : Nat => Value.int .u16 x)).toArray
theorem A8_size (l : List Nat) : (A8 l).size = l.length := by simp [A8]
theorem info27 : (Tryd.prog.info? 27).map (·.size) = some 8 := by kernel_rfl
def wo (l : List Nat) (f t : Nat) : List Nat := l.take f ++ List.replicate (t - f) 0 ++ l.drop t
theorem len27 : Tryd.prog.arrayLen 27 = 8 := by kernel_rfl
theorem elem27 : Tryd.prog.elem 27 = 26 := by kernel_rfl
theorem und27 : Tryd.prog.underlying 27 = some (.array (Tryd.prog.arrayLen 27) (Tryd.prog.elem 27)) := by kernel_rfl
theorem info26 : (Tryd.prog.info? 26).map (fun i => (i.zero, i.size, i.bytes)) = some (some (.int .u16 0), 1, 2) := by kernel_rfl
theorem add0 (g o k : Nat) : (⟨g, o, none⟩ : Addr).add k = ⟨g, o + k, none⟩ := by unfold Addr.add; split <;> simp_all
theorem run_size26 (W : World) : (sizeOf 26).run Tryd.prog W = .ok 1 W := by
  obtain ⟨i0, h1, h2, h3, h4⟩ := info_parts info26
  rw [run_sizeOf W h1]
  have hc : Tryd.prog.cellsOf 26 = 1 := by simp [Program.cellsOf, h1, h3]
  rw [hc]
/-- an array's part, its room to the array's end -/
def arrS (g l h : Nat) : Value := .slice (some ⟨g, if 8 = l then 0 else l, none⟩) (h - l) (8 - l)
theorem slice8_lh (g l h : Nat) (h1 : l ≤ h) (h2 : h ≤ 8) (W : World) : (Instr.sliceAt 27 (.pointer (some ⟨g, 0, none⟩)) (some (.int .i64 (l : Int))) (some (.int .i64 (h : Int))) none).run Tryd.prog W = .ok (arrS g l h) W := by
  rw [run_sliceAt_array_lh W 27 ⟨g, 0, none⟩ und27 .i64 .i64 l h (by omega) (by omega) (by rw [len27]; omega), len27, elem27, run_size26]
  simp only [Result.andThen_ok, slicedAt, Nat.mul_one, Int.toNat_natCast, add0, Nat.zero_add, arrS]
  split <;> rfl
theorem slice8_l (g l : Nat) (h2 : l ≤ 8) (W : World) : (Instr.sliceAt 27 (.pointer (some ⟨g, 0, none⟩)) (some (.int .i64 (l : Int))) none none).run Tryd.prog W = .ok (arrS g l 8) W := by
  rw [run_sliceAt_array_l W 27 ⟨g, 0, none⟩ und27 .i64 l (by omega) (by rw [len27]; omega), len27, elem27, run_size26]
  simp only [Result.andThen_ok, slicedAt, Nat.mul_one, Int.toNat_natCast, add0, Nat.zero_add, arrS]
  split <;> rfl
theorem slice8_h (g h : Nat) (h2 : h ≤ 8) (W : World) : (Instr.sliceAt 27 (.pointer (some ⟨g, 0, none⟩)) none (some (.int .i64 (h : Int))) none).run Tryd.prog W = .ok (arrS g 0 h) W := by
  rw [run_sliceAt_array_h W 27 ⟨g, 0, none⟩ und27 .i64 h (by omega) (by rw [len27]; omega), len27, elem27, run_size26]
  simp only [Result.andThen_ok, slicedAt, Nat.mul_one, Int.toNat_natCast, add0, Nat.zero_add, arrS]
  rfl
theorem slice8_all (g : Nat) (W : World) : (Instr.sliceAt 27 (.pointer (some ⟨g, 0, none⟩)) none none none).run Tryd.prog W = .ok (arrS g 0 8) W := by
  rw [run_sliceAt_array_all W 27 ⟨g, 0, none⟩ und27, len27, elem27, run_size26]
  simp only [Result.andThen_ok, slicedAt, Nat.mul_one, add0, Nat.zero_add, arrS]
  rfl
theorem has_setCells {g : Nat} {t : TypeId} : ∀ (vs : List Value) (o : Nat) (w : World) (cs : Array Value), Has w g (.cells cs t) → o + vs.length ≤ cs.size →
    Has (w.setCells g o vs) g (.cells (cs.toList.take o ++ vs ++ cs.toList.drop (o + vs.length)).toArray t)
  | [], o, w, cs, h, _ => by simpa [World.setCells] using h
  | v :: r, o, w, cs, h, hl => by
    have ih := has_setCells r (o + 1) (w.setCell ⟨g, o, none⟩ v) _ (h.set o v) (by simp at hl ⊢; omega)
    have hol : o < cs.toList.length := by simp at hl ⊢; omega
    have e1 : (cs.setIfInBounds o v).toList.take (o + 1) = cs.toList.take o ++ [v] := by
      rw [Array.toList_setIfInBounds, List.take_succ_eq_append_getElem (by simpa using hol), List.getElem_set_self, List.take_set_of_le (Nat.le_refl _)]
    have e2 : (cs.setIfInBounds o v).toList.drop (o + 1 + r.length) = cs.toList.drop (o + (r.length + 1)) := by
      rw [Array.toList_setIfInBounds, List.drop_set_of_lt (by omega), show o + 1 + r.length = o + (r.length + 1) by omega]
    rw [e1, e2] at ih
    show Has (World.setCells _ g (o + 1) r) g _
    simpa using ih
abbrev Z8 : Array Value := #[.int .u16 0, .int .u16 0, .int .u16 0, .int .u16 0, .int .u16 0, .int .u16 0, .int .u16 0, .int .u16 0]
theorem A8_wo (l : List Nat) (f t : Nat) : ((A8 l).toList.take f ++ List.replicate (t - f) (Value.int .u16 0) ++ (A8 l).toList.drop t).toArray = A8 (wo l f t) := by
  simp [A8, wo]
theorem A8_one (l : List Nat) : (A8 l).all (·.oneCell') = true := by
  rw [Array.all_eq_true_iff_forall_mem]
  intro v hv
  simp only [A8, List.mem_toArray, List.mem_map] at hv
  obtain ⟨x, _, rfl⟩ := hv
  rfl
theorem wo_len {l : List Nat} {f t : Nat} (hl : l.length = 8) (hft : f ≤ t) (ht : t ≤ 8) : (wo l f t).length = 8 := by simp [wo]; omega
theorem below_setRow {B : Nat} {a w : World} (h : Below B a w) {g : Nat} (hg : B ≤ g) (cs : Array Value) : Below B a (w.setRow g cs) :=
  ⟨h.os, h.tape, h.output, by have := h.size; simpa [World.setRow] using this, fun k hk => (setRow_other _ _ _ _ (by omega)).trans (h.block k hk)⟩
theorem bel_setCells {B g : Nat} {a : World} : ∀ (vs : List Value) (o : Nat) (w : World), Below B a w → B ≤ g → Below B a (w.setCells g o vs)
  | [], o, w, h, _ => by simpa [World.setCells] using h
  | v :: r, o, w, h, hg => bel_setCells r (o + 1) (w.setCell ⟨g, o, none⟩ v) (h.setCell (p := ⟨g, o, none⟩) hg v) hg
theorem has_setCells_far {g g' : Nat} {o' : Obj} : ∀ (vs : List Value) (o : Nat) (w : World), Has w g o' → g ≠ g' → Has (w.setCells g' o vs) g o'
  | [], o, w, h, _ => by simpa [World.setCells] using h
  | v :: r, o, w, h, hn => has_setCells_far r (o + 1) (w.setCell ⟨g', o, none⟩ v) (h.far (p := ⟨g', o, none⟩) hn v) hn
set_option maxHeartbeats 1000000 in
set_option maxRecDepth 100000 in
theorem without_is (l : List Nat) (f t : Nat) (hl : l.length = 8) (hft : f < t) (ht : t ≤ 8) (w : World) :
    Calls Tryd.prog 49 #[.agg (A8 l), .int .i64 f, .int .i64 t] w fun e w' => e = .returned (.agg (A8 (wo l f t))) ∧ Below w.heap.size w w' := by
  have ks := slice8_lh w.heap.size f t (by omega) ht
  have hz : (A8 l).size = 8 := by rw [A8_size, hl]
  have h0 : Has ((w.alloc (.cells (A8 l) 27)).alloc (.cells Z8 27)) w.heap.size (.cells (A8 l) 27) := (Has.new w _).alloc _
  have h1 : Has ((w.alloc (.cells (A8 l) 27)).alloc (.cells Z8 27)) (w.heap.size + 1) (.cells Z8 27) := heap_alloc2_new w _ _
  have hb0 : Below w.heap.size w ((w.alloc (.cells (A8 l) 27)).alloc (.cells Z8 27)) := (bnew w _).alloc (by simp) _
  obtain ⟨W1, kc, HH⟩ : ∃ W1, (Builtin.clear_ #[49] 0 #[arrS w.heap.size f t]).run Tryd.prog ((w.alloc (.cells (A8 l) 27)).alloc (.cells Z8 27)) = .ok (.tuple #[]) W1 ∧ Hid (Has W1 w.heap.size (.cells (A8 (wo l f t)) 27) ∧ Has W1 (w.heap.size + 1) (.cells Z8 27) ∧ Below w.heap.size w W1) := by
    refine ⟨((w.alloc (.cells (A8 l) 27)).alloc (.cells Z8 27)).setCells w.heap.size f (List.replicate (t - f) (.int .u16 0)), ?_, Lib.hid ⟨?_, ?_, ?_⟩⟩
    · have e : arrS w.heap.size f t = .slice (some ⟨w.heap.size, f, none⟩) (t - f) (8 - f) := by unfold arrS; rw [if_neg (by omega)]
      rw [e]
      exact Lib.run_clear_slice _ 49 26 0 (.int .u16 0) Tryd.underlying49 (fun w => by obtain ⟨i0, q1, q2, q3, q4⟩ := info_parts info26; simp [zeroValue, typeInfo, q1, q2, go_sem]) rfl rfl w.heap.size f (t - f) (8 - f) (by omega)
        (fun j hj => by rw [h0.cell (f + j) (Array.getElem?_eq_getElem (by omega))]; rfl) (fun j hj => h0.free _)
    · have := has_setCells (List.replicate (t - f) (Value.int .u16 0)) f _ _ h0 (by simp; omega)
      rw [List.length_replicate, show f + (t - f) = t by omega, A8_wo] at this
      exact this
    · exact has_setCells_far _ _ _ h1 (by omega)
    · exact bel_setCells _ _ _ hb0 (Nat.le_refl _)
  clear h0 h1 hb0
  have HZ := Lib.hid hz
  have hz2 : (A8 (wo l f t)).size = 8 := by rw [A8_size, wo_len hl (by omega) ht]
  have HZ2 := Lib.hid hz2
  clear hz hz2
  go_enter Tryd.func49, Tryd.ntmps49
  go_wp2_with (first
    | (refine wpList_load_row (by rfl) 27 (.tmp 3) rfl w.heap.size rfl 27 (A8 (wo l f t)) (0, 0) _ HH.out.1 Tryd.underlying27 rfl (by rw [HZ2.out]; exact info27) ?_)
    | (refine wpList_store_row (by rfl) 27 (.tmp 6) (.tmp 10) rfl (w.heap.size + 1) (A8 (wo l f t)) rfl rfl 27 Z8 HH.out.2.1 (by rw [HZ2.out]; exact info27) (by rw [HZ2.out]; rfl) (A8_one _) ?_))
  trace_state
  exact bodyPost_ret (v := .agg (A8 (wo l f t))) (results_cell_row rfl _ _ (w.heap.size + 1) 27 _ (0, 0) _ rfl (setRow_heap _ _ _ _ 27 (0, 0) HH.out.2.1) Tryd.underlying27 rfl (by rw [HZ2.out]; exact info27)) rfl ⟨rfl, below_setRow HH.out.2.2 (by omega) _⟩
end Go.Proofs.YtflddokngplgiaaDoor
namespace Go.Proofs.YtflddokngplgiaaDoor
open Go.RowKit
theorem lit1 (a : Nat) (h : a < 65536) : Tryd.prog.keyLits 1 26 [.int .u16 (a : Int)] = some [.int .u16 (a : Int)] := by
  have h1 : IntKind.u16.min = 0 := by decide
  have h2 : IntKind.u16.max = 65535 := by decide
  have hw : (Lit.int .u16 (a : Int)).wf = true := by simp [Lit.wf, h1, h2]; omega
  unfold Program.keyLits
  rw [Tryd.underlying26]
  simp [hw]
theorem cells27 : Tryd.prog.cellsOf 27 = 8 := by kernel_rfl
theorem cells26 : Tryd.prog.cellsOf 26 = 1 := by kernel_rfl
theorem lits8 (a b c d e f g h : Nat) (ha : a < 65536) (hb : b < 65536) (hc : c < 65536) (hd : d < 65536) (he : e < 65536) (hf : f < 65536) (hg : g < 65536) (hh : h < 65536) : Tryd.prog.keyLits 2 27 [.int .u16 (a : Int), .int .u16 (b : Int), .int .u16 (c : Int), .int .u16 (d : Int), .int .u16 (e : Int), .int .u16 (f : Int), .int .u16 (g : Int), .int .u16 (h : Int)] = some [.int .u16 (a : Int), .int .u16 (b : Int), .int .u16 (c : Int), .int .u16 (d : Int), .int .u16 (e : Int), .int .u16 (f : Int), .int .u16 (g : Int), .int .u16 (h : Int)] := by
  unfold Program.keyLits
  rw [Tryd.underlying27]
  simp only [cells27, cells26, List.length_cons, List.length_nil]
  rw [if_pos trivial, show List.range 8 = [0, 1, 2, 3, 4, 5, 6, 7] from rfl]
  simp [lit1 a ha, lit1 b hb, lit1 c hc, lit1 d hd, lit1 e he, lit1 f hf, lit1 g hg, lit1 h hh]
theorem formed8 (a b c d e f g h : Value) : (Value.agg #[a, b, c, d, e, f, g, h]).formed Tryd.prog 27 = true := by kernel_rfl
theorem eight {α : Type} {l : List α} (h : l.length = 8) : ∃ a b c d e f g i, l = [a, b, c, d, e, f, g, i] := by
  match l, h with
  | [a, b, c, d, e, f, g, i], _ => exact ⟨a, b, c, d, e, f, g, i, rfl⟩
theorem eq8 (l m : List Nat) (hl : l.length = 8) (hm : m.length = 8) (bl : ∀ x ∈ l, x < 65536) (bm : ∀ x ∈ m, x < 65536) (W : World) : (binOp .eql 27 (.agg (A8 l)) (.agg (A8 m))).run Tryd.prog W = .ok (.bool (decide (l = m))) W := by
  obtain ⟨a, b, c, d, e, f, g, h, rfl⟩ := eight hl
  obtain ⟨a', b', c', d', e', f', g', h', rfl⟩ := eight hm
  simp only [List.mem_cons, List.mem_nil_iff, or_false, forall_eq_or_imp, forall_eq] at bl bm
  obtain ⟨p0, p1, p2, p3, p4, p5, p6, p7⟩ := bl
  obtain ⟨q0, q1, q2, q3, q4, q5, q6, q7⟩ := bm
  have hd := run_equalIn_deep (P := Tryd.prog) 9998 2 27 (by kernel_rfl)
  obtain ⟨r, hr, hiff⟩ := hd W 2 2 (.agg (A8 [a, b, c, d, e, f, g, h])) (.agg (A8 [a', b', c', d', e', f', g', h'])) _ _ (formed8 _ _ _ _ _ _ _ _) (formed8 _ _ _ _ _ _ _ _) (lits8 a b c d e f g h p0 p1 p2 p3 p4 p5 p6 p7) (lits8 a' b' c' d' e' f' g' h' q0 q1 q2 q3 q4 q5 q6 q7)
  rw [run_eql_struct, hr, Result.andThen_ok]
  have : r = decide ([a, b, c, d, e, f, g, h] = [a', b', c', d', e', f', g', h']) := by
    rw [Bool.eq_iff_iff, hiff, decide_eq_true_iff]
    simp
    omega
  rw [this]
end Go.Proofs.YtflddokngplgiaaDoor
