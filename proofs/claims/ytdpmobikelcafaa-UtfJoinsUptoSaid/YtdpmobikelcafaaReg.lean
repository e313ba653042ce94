/-
  A region that draws its order, by an invariant over what has come up: one step for each operation, none for each order. Not tied to a program.
-/
import Derived.Orders
import Derived.Below
import Derived.Great.Frames
namespace Go.Proofs.Ytdpmobikelcafaa
open Go.RowKit
variable {P : Program} {ops : Array Oper} {Q : Exit → Act → World → Prop} {md : Region.Mode}
theorem left_set {listed : Array Bool} {i : Nat} (h : i < listed.size) (hf : listed.getD i true = false) : (listed.setIfInBounds i true).toList.count false + 1 = listed.toList.count false := by
  have hl : listed.toList[i]'(by simpa using h) = false := by
    simpa [Array.getD, h] using hf
  rw [Array.toList_setIfInBounds, List.count_set (by simpa using h), hl]
  have : 0 < listed.toList.count false := List.count_pos_iff.2 (by rw [← hl]; exact List.getElem_mem _)
  have e1 : ((false == false) = true) := rfl
  have e2 : ¬ ((true == false) = true) := by decide
  rw [if_pos e1, if_neg e2]
  omega
theorem wpAny_inv (Φ : Array Bool → Act → World → Prop)
    (step : ∀ listed a w i, Φ listed a w → i ∈ Region.ready md ops listed → wpOp P ops Q i (Φ (listed.setIfInBounds i true)) a w)
    (done : ∀ listed a w, Φ listed a w → Region.ready md ops listed = [] → Q .normal a w) :
    ∀ (fuel : Nat) (listed : Array Bool) (a : Act) (w : World), listed.size = ops.size → listed.toList.count false ≤ fuel → Φ listed a w → wpAny P md ops Q fuel listed a w
  | 0, listed, a, w, hs, hc, h => by
    have hr : Region.ready md ops listed = [] := by
      rw [List.eq_nil_iff_forall_not_mem]
      intro i hi
      have hm := mem_ready.1 hi
      obtain ⟨hf, o, ho, _⟩ := hm
      have hlt : i < listed.size := by rw [hs]; exact (Array.getElem?_eq_some_iff.1 ho).1
      have := left_set hlt hf
      omega
    exact ⟨hr, done _ _ _ h hr⟩
  | fuel + 1, listed, a, w, hs, hc, h => by
    refine ⟨fun hr => done _ _ _ h hr, fun i hi => ?_⟩
    obtain ⟨hf, o, ho, _⟩ := mem_ready.1 hi
    have hlt : i < listed.size := by rw [hs]; exact (Array.getElem?_eq_some_iff.1 ho).1
    have hls := left_set hlt hf
    exact wpOp_mono (fun a' w' h' => wpAny_inv Φ step done fuel _ a' w' (by simpa using hs) (by omega) h') (step listed a w i h hi)
/-- **the region**: Φ at the start (nothing has come up, one draw), kept by each operation that may come up, and enough for what follows when nothing is left -/
theorem wp_region_inv {id : Nat} {a : Act} {w : World} (hm : P.follows .mixedOrders = true) (Φ : Array Bool → Act → World → Prop)
    (h0 : Φ (Array.replicate ops.size false) a { w with drawn := w.drawn + 1 })
    (step : ∀ listed a w i, Φ listed a w → i ∈ Region.ready .any ops listed → wpOp P ops Q i (Φ (listed.setIfInBounds i true)) a w)
    (done : ∀ listed a w, Φ listed a w → Region.ready .any ops listed = [] → Q .normal a w) : (Code.region id ops true).wp P Q a w :=
  wp_region_any hm (wpAny_inv Φ step done _ _ _ _ (by simp) (by simp) h0)
/-- nothing is left: all have come up, where each waits only for what stands before it -/
theorem all_listed {listed : Array Bool} (hs : listed.size = ops.size) (hback : ∀ i o, ops[i]? = some o → ∀ e ∈ o.after, Region.binds md e = true → e.on < i) (hr : Region.ready md ops listed = []) : ∀ i, i < ops.size → listed.getD i false = true := by
  intro i
  induction i using Nat.strongRecOn with
  | _ i ih =>
    intro hi
    have hl : i < listed.size := by omega
    cases hb : listed.getD i false with
    | true => rfl
    | false =>
      have hm : i ∈ Region.ready md ops listed := by
        refine mem_ready.2 ⟨?_, ops[i], Array.getElem?_eq_getElem hi, fun e he hbnd => ?_⟩
        · simp only [Array.getD, hl, dite_true] at hb ⊢; exact hb
        · have hlt := hback i ops[i] (Array.getElem?_eq_getElem hi) e he hbnd
          exact ih e.on hlt (by omega)
      rw [hr] at hm; cases hm
/-- the frame is a0's but for the slots sl i of the region's operations -/
def FrameOf (ops : Array Oper) (sl : Nat → Nat) (a0 a : Act) : Prop :=
  a.tmps.size = a0.tmps.size ∧ a.defers = a0.defers ∧ ∀ k, (∀ i, i < ops.size → sl i ≠ k) → a.eval (.tmp k) = a0.eval (.tmp k)
/-- each operation waits only for what stands before it: a test that the kernel reckons -/
def backB (ops : Array Oper) : Bool := (List.range ops.size).all fun i => match ops[i]? with
  | some o => o.after.all fun e => !(Region.binds .any e) || decide (e.on < i)
  | none => true
theorem back_of {ops : Array Oper} (h : backB ops = true) : ∀ i o, ops[i]? = some o → ∀ e ∈ o.after, Region.binds .any e = true → e.on < i := by
  intro i o ho e he hb
  unfold backB at h
  rw [List.all_eq_true] at h
  have h1 := h i (List.mem_range.2 (Array.getElem?_eq_some_iff.1 ho).1)
  rw [ho] at h1
  simp only [Array.all_eq_true_iff_forall_mem] at h1
  have h2 := h1 e he
  rw [hb] at h2
  simpa using h2
/-- **a region, operation by operation**: V i says what operation i yields; it is kept when the world grows; each operation is shown once, from what it waits for. -/
theorem wp_region_vals {id : Nat} {a0 : Act} {w0 : World} (hm : P.follows .mixedOrders = true) (sl : Nat → Nat) (V : Nat → Value → World → Prop) (G : World → Prop)
    (hlt : ∀ i, i < ops.size → sl i < a0.tmps.size) (hinj : ∀ i j, i < ops.size → j < ops.size → sl i = sl j → i = j)
    (hback : ∀ i o, ops[i]? = some o → ∀ e ∈ o.after, Region.binds .any e = true → e.on < i)
    (hV : ∀ i v w w', V i v w → Below w.heap.size w w' → V i v w') (hG : ∀ w w', G w → Below w.heap.size w w' → G w')
    (h0 : G { w0 with drawn := w0.drawn + 1 })
    (hop : ∀ i o, ops[i]? = some o → ∀ a w, FrameOf ops sl a0 a → G w → (∀ e ∈ o.after, Region.binds .any e = true → V e.on (a.eval (.tmp (sl e.on))) w) →
      Region.wanted o (yielded ops a.tmps) = true ∧ o.wp P a w (fun a' w' => ∃ v, a' = a.put (some (sl i)) v ∧ V i v w' ∧ Below w.heap.size w w') Q)
    (hdone : ∀ a w, FrameOf ops sl a0 a → G w → (∀ i, i < ops.size → V i (a.eval (.tmp (sl i))) w) → Q .normal a w) : (Code.region id ops true).wp P Q a0 w0 := by
  refine wp_region_inv hm (fun listed a w => listed.size = ops.size ∧ FrameOf ops sl a0 a ∧ G w ∧ ∀ i, i < ops.size → listed.getD i false = true → V i (a.eval (.tmp (sl i))) w) ?_ ?_ ?_
  · refine ⟨by simp, ⟨rfl, rfl, fun _ _ => rfl⟩, h0, fun i hi h => ?_⟩
    simp [Array.getD, hi] at h
  · rintro listed a w i ⟨hs, hF, hg, hv⟩ hi
    obtain ⟨hf, o, ho, hdep⟩ := mem_ready.1 hi
    have hio : i < ops.size := (Array.getElem?_eq_some_iff.1 ho).1
    obtain ⟨hw, hwp⟩ := hop i o ho a w hF hg (fun e he hb => hv e.on (by have := hback i o ho e he hb; omega) (hdep e he hb))
    unfold wpOp
    rw [ho]
    simp only [hw, if_true]
    refine .inl (Oper.wp_mono (fun a' w' h => ?_) hwp)
    obtain ⟨v, rfl, hVi, hB⟩ := h
    have hsi : sl i < a.tmps.size := by rw [hF.1]; exact hlt i hio
    refine ⟨by simpa using hs, ⟨?_, ?_, ?_⟩, hG _ _ hg hB, ?_⟩
    · rw [← hF.1]; simp [Act.put]
    · rw [← hF.2.1]; rfl
    · intro k hk
      rw [Act.eval_put_ne _ _ _ _ (hk i hio)]
      exact hF.2.2 k hk
    · intro j hj hlj
      by_cases hij : i = j
      · subst hij
        rw [Act.eval_put_same _ _ _ hsi]; exact hVi
      · rw [getD_set_ne false hij] at hlj
        rw [Act.eval_put_ne _ _ _ _ (fun e => hij (hinj i j hio hj e))]
        exact hV _ _ _ _ (hv j hj hlj) hB
  · rintro listed a w ⟨hs, hF, hg, hv⟩ hr
    exact hdone a w hF hg (fun i hi => hv i hi (all_listed hs hback hr i hi))
end Go.Proofs.Ytdpmobikelcafaa
