import Derived.Test.YtnjnhgeafbofkaaDoorSeqBoxM
import Derived.Maps.AppendAt
namespace Go.Proofs.YtnjnhgeafbofkaaDoor
open Go.RowKit Go.Shelf
attribute [local go_sem] Oper.semAt_some
/-- 'a box holds a slice that owns its row' abides a store to a box of another type -/
theorem holdsRow_box {β : Type} (n₀ B0 bx Bs : Nat) (t e tt : TypeId) (ht : tt ≠ t) (he : tt ≠ e) (size : Nat) (k : β → Nat) (f : β → List Value) (G : β → Value → Prop) :
    OwnBox tt B0 bx (fun s W => ∃ v, Boxed W Bs t v ∧ W.ownsRow n₀ e size v (k s) (f s) ∧ G s v) := by
  rintro s X Y row ⟨v, hv, hr, hG⟩ hg hrow
  refine ⟨v, hv.kept hg (fun e' => ?_), hr.kept hg ?_, hG⟩
  · rcases hrow Bs e'.symm with ⟨_, o, ho, hc⟩ | ⟨rfl, ⟨x, hx⟩, _⟩
    · rw [show X.heap[Bs]? = _ from hv] at ho; cases ho; cases hc
    · have hh := hx.symm.trans (show X.heap[Bs]? = _ from hv)
      simp at hh
      exact ht hh.2
  · rcases hr.2 with ⟨rfl, _⟩ | ⟨g, cap, cur, rfl, _, hgb, _⟩
    · exact .inl rfl
    · refine .inr fun e' => ?_
      rcases hrow g (by simpa [Value.ownBlock] using e'.symm) with ⟨_, o, ho, hc⟩ | ⟨rfl, ⟨x, hx⟩, _⟩
      · rw [hgb] at ho; cases ho; cases hc
      · have hh := hx.symm.trans hgb
        simp at hh
        exact he hh.2
theorem ownBox_below {β : Type} {n₀ B0 bx : Nat} {tt : TypeId} {w : World} (h0 : n₀ ≤ w.heap.size) (h1 : n₀ ≤ B0) (h2 : n₀ ≤ bx) : OwnBox tt B0 bx (fun (_ : β) W => Below n₀ w W) := by
  intro s X Y row hs hg hr
  refine hs.grown hg (by have := hs.size; omega) fun k e => ?_
  rcases hr k e with ⟨h, _⟩ | ⟨h, _⟩ <;> omega
theorem ownBox_text {β : Type} {B0 bx : Nat} {tt : TypeId} : OwnBox tt B0 bx (fun (_ : β) W => TextBox tt bx W) := by
  intro s X Y row hs hg hr
  by_cases e : row = some bx
  · rcases hr bx e with ⟨_, o, ho, hc⟩ | ⟨_, _, h⟩
    · obtain ⟨x, hx⟩ := hs
      rw [hx] at ho; cases ho; cases hc
    · exact h
  · obtain ⟨x, hx⟩ := hs
    exact ⟨x, (hg.block bx (Array.getElem?_eq_some_iff.1 hx).1 (fun h => e h.symm)).trans hx⟩
theorem OwnBox.and {β : Type} {B bx : Nat} {t : TypeId} {I I' : β → World → Prop} (h : OwnBox t B bx I) (h' : OwnBox t B bx I') : OwnBox t B bx (fun s W => I s W ∧ I' s W) := fun s W W' row hs hg hr => ⟨h s W W' row hs.1 hg hr, h' s W W' row hs.2 hg hr⟩
set_option maxHeartbeats 1000000 in
theorem parts_box (n : Nat) (u : ByteArray) (w : World) :
    CallsIn Fence.wide n Tryd.prog 43 #[.string u] w fun e w' => e = .returned (.func (.func 63) #[] #[.pointer (some ⟨w.heap.size, 0, none⟩)]) ∧ w' = w.alloc (.cells #[.string u] 9) := by
  refine callsIn_of_wp Tryd.func43 rfl trivial ?_ rfl
  simp only [Tryd.ntmps43, List.size_toArray, List.length_cons, List.length_nil, Nat.reduceAdd, Nat.reduceSub, Array.replicate_succ, Array.replicate_zero, List.push_toArray, List.append_toArray, List.nil_append, List.cons_append]
  gi_wp2
  go_ret
  exact ⟨rfl, rfl⟩
def runeV (x : Nat × List UInt8) : Value := .int .i32 x.1
set_option maxRecDepth 100000 in
set_option maxHeartbeats 4000000 in
theorem decode_box (n : Nat) (hn : 4 ≤ n) (u : ByteArray) (hu : u.size ≤ maxLen) (hx : (U.pieces u.data.toList).length * 4 ≤ 140737488355328) (w : World) :
    CallsIn Fence.wide n Tryd.prog 59 #[.string u] w fun e W' => ∃ v, e = .returned v ∧ W'.ownsRow w.heap.size 21 1 v (U.pieces u.data.toList).length ((U.pieces u.data.toList).map runeV) ∧ (v = .slice none 0 0 ↔ U.pieces u.data.toList = []) ∧ Below w.heap.size w W' := by
  have h1 : 1 ≤ n := by omega
  obtain ⟨i0, hi, hz0, hz1, hz2⟩ := info_parts infoRune
  refine callsIn_of_wp_marks Tryd.func59 rfl trivial ?_ rfl
  simp only [Tryd.ntmps59, List.size_toArray, List.length_cons, List.length_nil, Nat.reduceAdd, Nat.reduceSub, Array.replicate_succ, Array.replicate_zero, List.push_toArray, List.append_toArray, List.nil_append, List.cons_append]
  gi_wp2_with (refine ⟨trivial, ?_⟩; gi_at_call 43; refine (parts_box (n - 1) _ _).mono ?_; rintro e w' ⟨rfl, rfl⟩)
  have bO := Boxed.new w 87 (.slice none 0 0)
  have bN := Boxed.new (w.alloc (.cells #[.slice none 0 0] 87)) 9 (.string u)
  rw [World.size_alloc] at bN
  have hB0 : Below w.heap.size w ((w.alloc (.cells #[.slice none 0 0] 87)).alloc (.cells #[.string u] 9)) := ((Below.refl _ w).alloc (Nat.le_refl _) _).alloc (by simp) _
  refine wpIn_rangeFunc_box rfl h1 (gf := 63) (lb := #[.pointer (some ⟨w.heap.size + 1, 0, none⟩)]) rfl trivial (enters_of Tryd.func63 (by kernel_rfl) rfl) (bx := w.heap.size + 1) (by simp)
    (iter_box (n - 1) (by omega) (w.heap.size + 1) u hu _ bN) (fun _ => rfl)
    (fun pre W => (∃ v, Boxed W w.heap.size 87 v ∧ W.ownsRow w.heap.size 21 1 v pre.length (pre.map runeV) ∧ (v = .slice none 0 0 ↔ pre = [])) ∧ Below w.heap.size w W ∧ TextBox 9 (w.heap.size + 1) W)
    (fun _ _ _ => False)
    (OwnBox.and (holdsRow_box w.heap.size _ (w.heap.size + 1) w.heap.size 87 21 9 (by decide) (by decide) 1 (fun pre => pre.length) (fun pre => pre.map runeV) (fun pre v => v = .slice none 0 0 ↔ pre = [])) (OwnBox.and (ownBox_below (Nat.le_refl _) (by simp; omega) (by omega)) ownBox_text))
    (fun _ _ _ _ _ hs _ _ => hs)
    ⟨⟨_, bO.alloc _, World.ownsRow_nil _ _ _ _, by simp⟩, hB0, ⟨u, bN⟩⟩
    (fun x => { tmps := #[.string u, undef, .slice none 0 0, .pointer (some ⟨w.heap.size, 0, none⟩), .int .i32 x.1, .string u, .func (.func 63) #[] #[.pointer (some ⟨w.heap.size + 1, 0, none⟩)], .int .i32 x.1, .string ⟨x.2.toArray⟩, undef, undef, undef, undef, undef], defers := [] }) ?assign ?body ?done ?stop
  case assign =>
    intro l x W K hK
    unfold encP
    gi_wp2
    exact hK
  case body =>
    rintro l pre x W ⟨⟨v, hv, hrow, hnil⟩, hB, ⟨tx, htx⟩⟩ hlt
    have hc := hv.cell
    gi_wp2_with (gi_at_builtin; refine wpListIn_append_own _ rfl _ _ 87 rfl w.heap.size 21 i0 (.int .i32 0) 1 4 Tryd.underlying87 hi hz0 hz1 hz2 rfl (by decide) _ _ _ rfl (hrow.alloc _) ⟨W.heap.size, 0, none⟩ 1 1 [runeV x] rfl rfl (cell_one_new _ _ _) (by simp [runeV, Value.oneCell']) (by unfold maxLen; omega) (by omega) (by have := hB.size; simp; omega) ?_; intro v' w1 hown' hgrow _; obtain ⟨g', cap', rfl⟩ := ownsRow_succ hown'; obtain ⟨hv1, hv2, hr2, hk2, hb2⟩ := hv.appended (by decide) hrow hB.size (Nat.le_refl _) hown' hgrow; have hc1 := hv1.cell; have hf1 := hv1.frozen)
    have hbx2 : (w1.setCell ⟨w.heap.size, 0, none⟩ (.slice (some ⟨g', 0, none⟩) (pre.length + 1) cap')).heap[w.heap.size + 1]? = W.heap[w.heap.size + 1]? := by
      rw [Below.heap_setCell _ _ _ _ (by simp)]
      have hne : some (w.heap.size + 1) ≠ v.ownBlock := by
        rcases hrow.2 with ⟨rfl, _⟩ | ⟨g, cap, cur, rfl, _, hgb, _⟩
        · simp [Value.ownBlock]
        · intro e'
          have e2 : w.heap.size + 1 = g := by simpa [Value.ownBlock] using e'
          rw [e2, hgb] at htx
          simp at htx
      exact (hgrow.block _ (by have := (Array.getElem?_eq_some_iff.1 htx).1; simp; omega) hne).trans (Below.heap_alloc _ _ _ (Array.getElem?_eq_some_iff.1 htx).1)
    exact ⟨hk2, hbx2, ⟨_, hv2, by simpa using hr2, by simp⟩, hB.trans hb2, ⟨tx, hbx2.trans htx⟩⟩
  case done =>
    rintro D ys W hD rfl ⟨⟨v, hv, hrow, hnil⟩, hB, _⟩ hK
    have hc := hv.cell
    gi_wp2
    refine ⟨by simp, .inl ⟨_, _, rfl, run_takeDeferred hK, ?_⟩⟩
    exact ⟨_, results_tmp rfl _ _ _, v, rfl, ownsRow_putObj hrow _ hK rfl, hnil, hB.trans (belowK_b (w := w) (Nat.le_refl _) W D _ _ (by simp at hD; omega) hK rfl rfl)⟩
  case stop =>
    rintro D c pre W _ _ h _
    exact h.elim
/-- the rune list l, owned in w by v -/
def Runes (w : World) (base : Nat) (v : Value) (l : List Int) : Prop := w.ownsRow base 21 1 v l.length (l.map (Value.int .i32)) ∧ (v = .slice none 0 0 ↔ l = [])
theorem runeV_map (l : List UInt8) : (U.pieces l).map runeV = (U.runesZ l).map (Value.int .i32) := by
  unfold U.runesZ U.runes
  rw [List.map_map, List.map_map]
  rfl
theorem pieces_len (l : List UInt8) : (U.pieces l).length = (U.runesZ l).length := by
  unfold U.runesZ U.runes
  rw [List.length_map, List.length_map]
theorem pieces_nil_iff (l : List UInt8) : U.pieces l = [] ↔ U.runesZ l = [] := by
  rw [← List.length_eq_zero_iff, ← List.length_eq_zero_iff, pieces_len]
theorem decode_runes (u : ByteArray) (l : List Int) (hl : U.runesZ u.data.toList = l) (hu : u.size * 4 ≤ 140737488355328) (w : World) :
    Calls Tryd.prog 59 #[.string u] w fun e w' => ∃ v, e = .returned v ∧ Runes w' w.heap.size v l ∧ Below w.heap.size w w' := by
  have hc := (U.runes_count u.data.toList).1
  rw [len_list] at hc
  refine (callsIn_wide (n := 4)).1 ((decode_box 4 (Nat.le_refl _) u (by unfold maxLen; omega) (by rw [pieces_len]; omega) w).mono ?_)
  rintro e w' ⟨v, rfl, h1, h2, h3⟩
  rw [runeV_map, pieces_len, hl] at h1
  rw [pieces_nil_iff, hl] at h2
  exact ⟨v, rfl, ⟨h1, h2⟩, h3⟩
end Go.Proofs.YtnjnhgeafbofkaaDoor
namespace Go.Proofs.YtnjnhgeafbofkaaDoor
open Go.RowKit Go.Shelf
attribute [local go_sem] Oper.semAt_some
theorem boxed_box {β : Type} (B0 bx Bs : Nat) (t tt : TypeId) (ht : tt ≠ t) (f : β → Value) : OwnBox tt B0 bx (fun s W => Boxed W Bs t (f s)) := by
  intro s X Y row hv hg hrow
  refine Boxed.kept hv hg (fun e' => ?_)
  rcases hrow Bs e'.symm with ⟨_, o, ho, hc⟩ | ⟨rfl, ⟨x, hx⟩, _⟩
  · rw [show X.heap[Bs]? = _ from hv] at ho; cases ho; cases hc
  · have hh := hx.symm.trans (show X.heap[Bs]? = _ from hv)
    simp at hh
    exact ht hh.2
theorem ownBox_pure {β : Type} {B0 bx : Nat} {tt : TypeId} (p : β → Prop) : OwnBox tt B0 bx (fun s (_ : World) => p s) := fun _ _ _ _ hs _ _ => hs
set_option maxRecDepth 100000 in
set_option maxHeartbeats 4000000 in
theorem valid_box (n : Nat) (hn : 4 ≤ n) (u : ByteArray) (hu : u.size ≤ maxLen) (w : World) :
    CallsIn Fence.wide n Tryd.prog 23 #[.string u] w fun e W' => e = .returned (.bool (U.good u.data.toList)) ∧ Below w.heap.size w W' := by
  have h1 : 1 ≤ n := by omega
  refine callsIn_of_wp_marks Tryd.func23 rfl trivial ?_ rfl
  simp only [Tryd.ntmps23, List.size_toArray, List.length_cons, List.length_nil, Nat.reduceAdd, Nat.reduceSub, Array.replicate_succ, Array.replicate_zero, List.push_toArray, List.append_toArray, List.nil_append, List.cons_append]
  gi_wp2_with (refine ⟨trivial, ?_⟩; gi_at_call 43; refine (parts_box (n - 1) _ _).mono ?_; rintro e w' ⟨rfl, rfl⟩)
  have bO := Boxed.new w 4 (.bool false)
  have bN := Boxed.new (w.alloc (.cells #[.bool false] 4)) 9 (.string u)
  rw [World.size_alloc] at bN
  have hB0 : Below w.heap.size w ((w.alloc (.cells #[.bool false] 4)).alloc (.cells #[.string u] 9)) := ((Below.refl _ w).alloc (Nat.le_refl _) _).alloc (by simp) _
  refine wpIn_rangeFunc_box rfl h1 (gf := 63) (lb := #[.pointer (some ⟨w.heap.size + 1, 0, none⟩)]) rfl trivial (enters_of Tryd.func63 (by kernel_rfl) rfl) (bx := w.heap.size + 1) (by simp)
    (iter_box (n - 1) (by omega) (w.heap.size + 1) u hu _ bN) (fun _ => rfl)
    (fun pre W => Hid (pre.all U.goodP = true) ∧ Boxed W w.heap.size 4 (.bool false) ∧ Below w.heap.size w W)
    (fun c pre W => (c = .ret ∧ Hid (pre.all U.goodP = false)) ∧ Boxed W w.heap.size 4 (.bool false) ∧ Below w.heap.size w W)
    (OwnBox.and (ownBox_pure _) (OwnBox.and (boxed_box _ _ _ 4 9 (by decide) (fun _ => .bool false)) (ownBox_below (Nat.le_refl _) (by simp; omega) (by omega))))
    (fun c => OwnBox.and (ownBox_pure _) (OwnBox.and (boxed_box _ _ _ 4 9 (by decide) (fun _ => .bool false)) (ownBox_below (Nat.le_refl _) (by simp; omega) (by omega))))
    ⟨Lib.hid rfl, bO.alloc _, hB0⟩
    (fun x => { tmps := #[.string u, undef, .pointer (some ⟨w.heap.size, 0, none⟩), .int .i32 x.1, .string ⟨x.2.toArray⟩, .string u, .func (.func 63) #[] #[.pointer (some ⟨w.heap.size + 1, 0, none⟩)], .int .i32 x.1, .string ⟨x.2.toArray⟩, undef, undef, undef, undef, undef, undef], defers := [] }) ?assign ?body ?done ?stop
  case assign =>
    intro l x W K hK
    unfold encP
    gi_wp2
    exact hK
  case body =>
    rintro l pre ⟨r, part⟩ W ⟨hp, hv, hB⟩ _
    have hc := hv.cell
    have hf := hv.frozen
    by_cases hr : r = 65533
    · subst hr
      by_cases hpart : part = [239, 191, 189]
      · subst hpart
        gi_wp2
        exact ⟨KeepsOthers.refl _, rfl, Lib.hid (by rw [List.all_append, hp.out]; rfl), hv, hB⟩
      · have hpb : (part == [239, 191, 189]) = false := by rw [beq_eq_false_iff_ne]; exact hpart
        gi_wp2
        exact ⟨KeepsOthers.setCell _ _ _, ⟨rfl, Lib.hid (by rw [List.all_append, hp.out]; simp [U.goodP, U.RC, hpart])⟩, hv.set _, hB.setCell (p := ⟨w.heap.size, 0, none⟩) (Nat.le_refl _) _⟩
    · have hri : ((r : Int) == 65533) = false := by rw [beq_eq_false_iff_ne]; omega
      gi_wp2
      exact ⟨KeepsOthers.refl _, rfl, Lib.hid (by rw [List.all_append, hp.out]; simp [U.goodP, U.RC, hr]), hv, hB⟩
  case done =>
    rintro D ys W hD rfl ⟨hp, hv, hB⟩ hK
    have hc := hv.cell
    have hf := hv.frozen
    gi_wp2
    have hK' := (KeepsOthers.setCell W ⟨w.heap.size, 0, none⟩ (.bool true)).same D _ hK rfl
    refine ⟨by simp, .inl ⟨_, _, rfl, run_takeDeferred hK', ?_⟩⟩
    have hc5 := cell_kept (hv.set (.bool true)).cell (grownBy_putObj' _ D (.deferred none)) (fun r e => by cases e; exact ⟨_, hK', rfl⟩)
    refine ⟨.bool true, ?_, by rw [show U.good u.data.toList = true from hp.out], (hB.setCell (p := ⟨w.heap.size, 0, none⟩) (Nat.le_refl _) _).trans (belowK_b (w := w) (Nat.le_refl _) _ D _ _ (by simp at hD; omega) hK' rfl rfl)⟩
    simp [results, Tryd.f34, go_sem, hc5]
  case stop =>
    rintro D c pre W hD hpre ⟨⟨rfl, hb⟩, hv, hB⟩ hK
    gi_wp2
    refine ⟨by simp, .inl ⟨_, _, rfl, run_takeDeferred hK, ?_⟩⟩
    have hc5 := cell_kept hv.cell (grownBy_putObj' _ D (.deferred none)) (fun r e => by cases e; exact ⟨_, hK, rfl⟩)
    have hg : U.good u.data.toList = false := by
      obtain ⟨t, ht⟩ := hpre
      unfold U.good
      rw [← ht, List.all_append, hb.out]; rfl
    refine ⟨.bool false, ?_, by rw [hg], hB.trans (belowK_b (w := w) (Nat.le_refl _) W D _ _ (by simp at hD; omega) hK rfl rfl)⟩
    simp [results, Tryd.f34, go_sem, hc5]
theorem valid_is (u : ByteArray) (b : Bool) (hb : U.good u.data.toList = b) (hu : u.size ≤ maxLen) (w : World) :
    Calls Tryd.prog 23 #[.string u] w fun e w' => e = .returned (.bool b) ∧ Below w.heap.size w w' := by
  rw [← hb]; exact (callsIn_wide (n := 4)).1 (valid_box 4 (Nat.le_refl _) u hu w)
end Go.Proofs.YtnjnhgeafbofkaaDoor
