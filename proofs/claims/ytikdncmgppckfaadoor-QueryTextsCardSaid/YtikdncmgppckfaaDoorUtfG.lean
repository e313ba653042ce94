import Derived.Test.YtikdncmgppckfaaDoorGU
namespace Go.Proofs.YtikdncmgppckfaaDoor
open Go.RowKit Go.Shelf
attribute [local go_sem] Oper.semAt_some
theorem boxed_box {β : Type} (B0 bx Bs : Nat) (t tt : TypeId) (ht : tt ≠ t) (f : β → Value) : OwnBox tt B0 bx (fun s W => Boxed W Bs t (f s)) := by
  intro s X Y row hv hg hrow
  refine Boxed.kept hv hg (fun e' => ?_)
  rcases hrow Bs e'.symm with ⟨_, o, ho, hc⟩ | ⟨rfl, ⟨x, hx⟩, _⟩
  · rw [show X.heap[Bs]? = _ from hv] at ho; cases ho; cases hc
  · have hh := hx.symm.trans (show X.heap[Bs]? = _ from hv)
    simp at hh
    exact ht hh.2
theorem ownBox_pure {β : Type} {B0 bx : Nat} {tt : TypeId} (p : β → Prop) : OwnBox tt B0 bx (fun s (_ : World) => p s) := fun _ _ _ _ hs _ _ => hs
set_option maxRecDepth 100000 in
set_option maxHeartbeats 4000000 in
theorem valid_box (n : Nat) (hn : 4 ≤ n) (u : ByteArray) (hu : u.size ≤ maxLen) (w : World) :
    CallsIn Fence.wide n Tryd.prog 23 #[.string u] w fun e W' => e = .returned (.bool (U.good u.data.toList)) ∧ Below w.heap.size w W' := by
  have h1 : 1 ≤ n := by omega
  refine callsIn_of_wp_marks Tryd.func23 rfl trivial ?_ rfl
  simp only [Tryd.ntmps23, List.size_toArray, List.length_cons, List.length_nil, Nat.reduceAdd, Nat.reduceSub, Array.replicate_succ, Array.replicate_zero, List.push_toArray, List.append_toArray, List.nil_append, List.cons_append]
  gi_wp2_with (refine ⟨trivial, ?_⟩; gi_at_call 43; refine (parts_box (n - 1) _ _).mono ?_; rintro e w' ⟨rfl, rfl⟩)
  have bO := Boxed.new w 4 (.bool false)
  have bN := Boxed.new (w.alloc (.cells #[.bool false] 4)) 9 (.string u)
  rw [World.size_alloc] at bN
  have hB0 : Below w.heap.size w ((w.alloc (.cells #[.bool false] 4)).alloc (.cells #[.string u] 9)) := ((Below.refl _ w).alloc (Nat.le_refl _) _).alloc (by simp) _
  refine wpIn_rangeFunc_box rfl h1 (gf := 63) (lb := #[.pointer (some ⟨w.heap.size + 1, 0, none⟩)]) rfl trivial (enters_of Tryd.func63 (by kernel_rfl) rfl) (bx := w.heap.size + 1) (by simp)
    (iter_box (n - 1) (by omega) (w.heap.size + 1) u hu _ bN) (fun _ => rfl)
    (fun pre W => Hid (pre.all U.goodP = true) ∧ Boxed W w.heap.size 4 (.bool false) ∧ Below w.heap.size w W)
    (fun c pre W => (c = .ret ∧ Hid (pre.all U.goodP = false)) ∧ Boxed W w.heap.size 4 (.bool false) ∧ Below w.heap.size w W)
    (OwnBox.and (ownBox_pure _) (OwnBox.and (boxed_box _ _ _ 4 9 (by decide) (fun _ => .bool false)) (ownBox_below (Nat.le_refl _) (by simp; omega) (by omega))))
    (fun c => OwnBox.and (ownBox_pure _) (OwnBox.and (boxed_box _ _ _ 4 9 (by decide) (fun _ => .bool false)) (ownBox_below (Nat.le_refl _) (by simp; omega) (by omega))))
    ⟨Lib.hid rfl, bO.alloc _, hB0⟩
    (fun x => { tmps := #[.string u, undef, .pointer (some ⟨w.heap.size, 0, none⟩), .int .i32 x.1, .string ⟨x.2.toArray⟩, .string u, .func (.func 63) #[] #[.pointer (some ⟨w.heap.size + 1, 0, none⟩)], .int .i32 x.1, .string ⟨x.2.toArray⟩, undef, undef, undef, undef, undef, undef], defers := [] }) ?assign ?body ?done ?stop
  case assign =>
    intro l x W K hK
    unfold encP
    gi_wp2
    exact hK
  case body =>
    rintro l pre ⟨r, part⟩ W ⟨hp, hv, hB⟩ _
    have hc := hv.cell
    have hf := hv.frozen
    by_cases hr : r = 65533
    · subst hr
      by_cases hpart : part = [239, 191, 189]
      · subst hpart
        gi_wp2
        exact ⟨KeepsOthers.refl _, rfl, Lib.hid (by rw [List.all_append, hp.out]; rfl), hv, hB⟩
      · have hpb : (part == [239, 191, 189]) = false := by rw [beq_eq_false_iff_ne]; exact hpart
        gi_wp2
        exact ⟨KeepsOthers.setCell _ _ _, ⟨rfl, Lib.hid (by rw [List.all_append, hp.out]; simp [U.goodP, U.RC, hpart])⟩, hv.set _, hB.setCell (p := ⟨w.heap.size, 0, none⟩) (Nat.le_refl _) _⟩
    · have hri : ((r : Int) == 65533) = false := by rw [beq_eq_false_iff_ne]; omega
      gi_wp2
      exact ⟨KeepsOthers.refl _, rfl, Lib.hid (by rw [List.all_append, hp.out]; simp [U.goodP, U.RC, hr]), hv, hB⟩
  case done =>
    rintro D ys W hD rfl ⟨hp, hv, hB⟩ hK
    have hc := hv.cell
    have hf := hv.frozen
    gi_wp2
    have hK' := (KeepsOthers.setCell W ⟨w.heap.size, 0, none⟩ (.bool true)).same D _ hK rfl
    refine ⟨by simp, .inl ⟨_, _, rfl, run_takeDeferred hK', ?_⟩⟩
    have hc5 := cell_kept (hv.set (.bool true)).cell (grownBy_putObj' _ D (.deferred none)) (fun r e => by cases e; exact ⟨_, hK', rfl⟩)
    refine ⟨.bool true, ?_, by rw [show U.good u.data.toList = true from hp.out], (hB.setCell (p := ⟨w.heap.size, 0, none⟩) (Nat.le_refl _) _).trans (belowK_b (w := w) (Nat.le_refl _) _ D _ _ (by simp at hD; omega) hK' rfl rfl)⟩
    simp [results, Tryd.f34, go_sem, hc5]
  case stop =>
    rintro D c pre W hD hpre ⟨⟨rfl, hb⟩, hv, hB⟩ hK
    gi_wp2
    refine ⟨by simp, .inl ⟨_, _, rfl, run_takeDeferred hK, ?_⟩⟩
    have hc5 := cell_kept hv.cell (grownBy_putObj' _ D (.deferred none)) (fun r e => by cases e; exact ⟨_, hK, rfl⟩)
    have hg : U.good u.data.toList = false := by
      obtain ⟨t, ht⟩ := hpre
      unfold U.good
      rw [← ht, List.all_append, hb.out]; rfl
    refine ⟨.bool false, ?_, by rw [hg], hB.trans (belowK_b (w := w) (Nat.le_refl _) W D _ _ (by simp at hD; omega) hK rfl rfl)⟩
    simp [results, Tryd.f34, go_sem, hc5]
theorem valid_is (u : ByteArray) (b : Bool) (hb : U.good u.data.toList = b) (hu : u.size ≤ maxLen) (w : World) :
    Calls Tryd.prog 23 #[.string u] w fun e w' => e = .returned (.bool b) ∧ Below w.heap.size w w' := by
  rw [← hb]; exact (callsIn_wide (n := 4)).1 (valid_box 4 (Nat.le_refl _) u hu w)
end Go.Proofs.YtikdncmgppckfaaDoor
