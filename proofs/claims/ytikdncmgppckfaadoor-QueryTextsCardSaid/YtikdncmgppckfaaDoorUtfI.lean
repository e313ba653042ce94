import Derived.Test.YtikdncmgppckfaaDoorUtfG
import Derived.Test.YtikdncmgppckfaaDoorGU
namespace Go.Proofs.YtikdncmgppckfaaDoor
open Go.RowKit Go.Shelf
attribute [local go_sem] Oper.semAt_some
theorem bld_box {β : Type} (B b B0 bx : Nat) (f : β → List UInt8) : OwnBox 9 B0 bx (fun s W => Bld B b (f s) W) := by
  intro s X Y row h hg hrow
  obtain ⟨hB, v, hbk, ⟨hn, hown⟩, hne⟩ := h
  have key : ∀ (k : Nat) (cs : Array Value) (t : TypeId) (fz : Nat × Nat), t ≠ 9 → X.heap[k]? = some (Obj.cells cs t fz) → Y.heap[k]? = some (Obj.cells cs t fz) := by
    intro k cs t fz ht hk
    refine (hg.block k (Array.getElem?_eq_some_iff.1 hk).1 (fun e' => ?_)).trans hk
    rcases hrow k e'.symm with ⟨_, o, ho, hc⟩ | ⟨rfl, ⟨x, hx⟩, _⟩
    · rw [hk] at ho; cases ho; cases hc
    · have hh := hx.symm.trans hk
      simp at hh
      exact ht hh.2.1.symm
  refine ⟨hB, v, key _ _ _ _ (by decide) hbk, ⟨hn, ?_⟩, hne⟩
  rcases hown with h | ⟨g, cap, cur, fz, hv, hBg, hg', rest⟩
  · exact .inl h
  · exact .inr ⟨g, cap, cur, fz, hv, hBg, key _ _ _ _ (by decide) hg', rest⟩
def zs (pre : List (Nat × List UInt8)) : List Int := pre.map fun x => (x.1 : Int)
theorem zs_pieces (l : List UInt8) : zs (U.pieces l) = U.runesZ l := by
  unfold zs U.runesZ U.runes
  rw [List.map_map]; rfl
theorem zs_snoc (pre : List (Nat × List UInt8)) (x : Nat × List UInt8) : U.enc (zs (pre ++ [x])) = U.enc (zs pre) ++ U.encR x.1 := by
  unfold zs
  rw [List.map_append, U.enc_app]
  simp [U.enc_cons, U.enc_nil]
theorem zs_len (pre : List (Nat × List UInt8)) : (U.enc (zs pre)).length ≤ 4 * pre.length := by
  have := U.enc_len (zs pre)
  unfold zs at this ⊢
  rw [List.length_map] at this
  exact this
set_option maxRecDepth 100000 in
set_option maxHeartbeats 4000000 in
theorem scalar_box (n : Nat) (hn : 4 ≤ n) (u : ByteArray) (hu : u.size * 4 ≤ 140737488355328) (w : World) :
    CallsIn Fence.wide n Tryd.prog 51 #[.string u] w fun e W' => e = .returned (.string ⟨(U.scal u.data.toList).toArray⟩) ∧ Below w.heap.size w W' := by
  have h1 : 1 ≤ n := by omega
  have hpl := (U.runes_count u.data.toList).1
  rw [len_list, ← pieces_len] at hpl
  refine callsIn_of_wp_marks Tryd.func51 rfl trivial ?_ rfl
  simp only [Tryd.ntmps51, List.size_toArray, List.length_cons, List.length_nil, Nat.reduceAdd, Nat.reduceSub, Array.replicate_succ, Array.replicate_zero, List.push_toArray, List.append_toArray, List.nil_append, List.cons_append]
  have hblk := heap_alloc_new w (.cells #[.pointer none, .slice none 0 0] 47)
  gi_wp2_with fail
  refine ⟨trivial, ?_⟩
  refine (callsIn_wide.2 (grow_any w.heap.size w.heap.size u.size _ (Nat.le_refl _) hblk (by simp) (by omega))).mono ?_
  rintro e w1 ⟨rfl, hb1, hbel1⟩
  have hbel := ((Below.refl w.heap.size w).alloc (Nat.le_refl _) (.cells #[.pointer none, .slice none 0 0] 47)).trans hbel1
  have hz1 := hbel1.size
  simp at hz1
  clear hbel1 hblk
  gi_wp2_with fail
  refine ⟨trivial, ?_⟩
  refine (parts_box (n - 1) _ _).mono ?_
  rintro e w' ⟨rfl, rfl⟩
  gi_wp2_with fail
  have bN := Boxed.new w1 9 (.string u)
  have hB0 : Below w.heap.size w (w1.alloc (.cells #[.string u] 9)) := hbel.alloc (by omega) _
  have hb2 := hb1.later ((Below.refl _ w1).alloc (Nat.le_refl _) (.cells #[.string u] 9))
  refine wpIn_rangeFunc_box rfl h1 (gf := 63) (lb := #[.pointer (some ⟨w1.heap.size, 0, none⟩)]) rfl trivial (enters_of Tryd.func63 (by kernel_rfl) rfl) (bx := w1.heap.size) (by simp)
    (iter_box (n - 1) (by omega) w1.heap.size u (by unfold maxLen; omega) _ bN) (fun _ => rfl)
    (fun pre W => Bld w.heap.size w.heap.size (U.enc (zs pre)) W ∧ Below w.heap.size w W ∧ TextBox 9 w1.heap.size W)
    (fun _ _ _ => False)
    (OwnBox.and (bld_box _ _ _ _ (fun pre => U.enc (zs pre))) (OwnBox.and (ownBox_below (Nat.le_refl _) (by simp; omega) (by omega)) ownBox_text))
    (fun _ _ _ _ _ hs _ _ => hs)
    ⟨hb2, hB0, ⟨u, bN⟩⟩
    (fun x => { tmps := #[.string u, undef, .string ⟨#[]⟩, .pointer (some ⟨w.heap.size, 0, none⟩), .int .i32 x.1, .string u, .int .i64 u.size, .tuple #[], .string u, .func (.func 63) #[] #[.pointer (some ⟨w1.heap.size, 0, none⟩)], .int .i32 x.1, .string ⟨x.2.toArray⟩, undef, undef, undef], defers := [] }) ?assign ?body ?done ?stop
  case assign =>
    intro l x W K hK
    unfold encP
    gi_wp2
    exact hK
  case body =>
    rintro l pre ⟨r, part⟩ W ⟨hb, hB, ⟨tx, htx⟩⟩ hlt
    have hzl := zs_len pre
    have hq := hB.size
    gi_wp2_with fail
    refine ⟨trivial, fun _ => by omega, ?_⟩
    refine (CallsIn.inRound l (callsIn_wide.2 (put_any w.heap.size w.heap.size (U.enc (zs pre)) r _ hb (by omega) (by omega)))).mono ?_
    rintro e w3 ⟨rfl, hb3, hbel3, ho3⟩
    have hbx3 := ho3 _ _ htx (by
      intro e'
      obtain ⟨_, v, hbk, _⟩ := hb
      have e2 : w1.heap.size = w.heap.size := by simpa using e'
      rw [e2, hbk] at htx
      simp at htx) (by intro c fz e'; cases e')
    gi_wp2
    refine ⟨⟨hbel3.size, fun k o hk ho => ho3 k o hk (fun e' => ?_) (fun c fz e' => by subst e'; cases ho)⟩, hbx3.trans htx.symm, by rw [zs_snoc]; exact hb3, hB.trans hbel3, ⟨tx, hbx3⟩⟩
    obtain ⟨_, v, hbk, _⟩ := hb
    have e2 : k = w.heap.size := by simpa using e'
    rw [e2, hbk] at hk
    cases hk; cases ho
  case done =>
    rintro D ys W hD rfl ⟨hb, hB, _⟩ hK
    have hq := hB.size
    rw [zs_pieces] at hb
    gi_wp2_with fail
    refine ⟨trivial, ?_⟩
    refine (callsIn_wide.2 (bString 47 w.heap.size w.heap.size _ _ (.inr hb) (by omega))).mono ?_
    rintro e w3 ⟨rfl, hbel3, ho3⟩
    have hK3 := ho3 _ _ hK (by
      intro e'
      obtain ⟨_, v, hbk, _⟩ := hb
      have e2 : D = w.heap.size := by simpa using e'
      rw [e2, hbk] at hK
      cases hK) (by intro c fz e'; cases e')
    gi_wp2
    refine ⟨by simp, .inl ⟨_, _, rfl, run_takeDeferred hK3, ?_⟩⟩
    exact ⟨_, results_tmp rfl _ _ _, rfl, (hB.trans hbel3).trans (belowK_b (w := w) (Nat.le_refl _) w3 D _ _ (by simp at hD; omega) hK3 rfl rfl)⟩
  case stop =>
    rintro D c pre W _ _ h _
    exact h.elim
theorem scalar_is (u : ByteArray) (T : List UInt8) (hT : U.scal u.data.toList = T) (hu : u.size * 4 ≤ 140737488355328) (w : World) :
    Calls Tryd.prog 51 #[.string u] w fun e w' => e = .returned (.string ⟨T.toArray⟩) ∧ Below w.heap.size w w' := by
  rw [← hT]; exact (callsIn_wide (n := 4)).1 (scalar_box 4 (Nat.le_refl _) u hu w)
end Go.Proofs.YtikdncmgppckfaaDoor
