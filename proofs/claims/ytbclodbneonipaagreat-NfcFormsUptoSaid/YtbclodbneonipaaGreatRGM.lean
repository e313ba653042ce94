import Derived.Orders
import Derived.Below
import Derived.Great.Frames
import Derived.Test.YtbclodbneonipaaGreatSAM
/-
  A region that draws its order, by an invariant over what has come up: one step for each operation, none for each order. Not tied to a program.
-/
namespace Go.Proofs.YtbclodbneonipaaGreat
open Go.RowKit
variable {P : Program} {ops : Array Oper} {Q : Exit → Act → World → Prop} {md : Region.Mode}
theorem left_set {listed : Array Bool} {i : Nat} (h : i < listed.size) (hf : listed.getD i true = false) : (listed.setIfInBounds i true).toList.count false + 1 = listed.toList.count false := by
  have hl : listed.toList[i]'(by simpa using h) = false := by
    simpa [Array.getD, h] using hf
  rw [Array.toList_setIfInBounds, List.count_set (by simpa using h), hl]
  have : 0 < listed.toList.count false := List.count_pos_iff.2 (by rw [← hl]; exact List.getElem_mem _)
  have e1 : ((false == false) = true) := rfl
  have e2 : ¬ ((true == false) = true) := by decide
  rw [if_pos e1, if_neg e2]
  omega
theorem wpAny_inv (Φ : Array Bool → Act → World → Prop)
    (step : ∀ listed a w i, Φ listed a w → i ∈ Region.ready md ops listed → wpOp P ops Q i (Φ (listed.setIfInBounds i true)) a w)
    (done : ∀ listed a w, Φ listed a w → Region.ready md ops listed = [] → Q .normal a w) :
    ∀ (fuel : Nat) (listed : Array Bool) (a : Act) (w : World), listed.size = ops.size → listed.toList.count false ≤ fuel → Φ listed a w → wpAny P md ops Q fuel listed a w
  | 0, listed, a, w, hs, hc, h => by
    have hr : Region.ready md ops listed = [] := by
      rw [List.eq_nil_iff_forall_not_mem]
      intro i hi
      have hm := mem_ready.1 hi
      obtain ⟨hf, o, ho, _⟩ := hm
      have hlt : i < listed.size := by rw [hs]; exact (Array.getElem?_eq_some_iff.1 ho).1
      have := left_set hlt hf
      omega
    exact ⟨hr, done _ _ _ h hr⟩
  | fuel + 1, listed, a, w, hs, hc, h => by
    refine ⟨fun hr => done _ _ _ h hr, fun i hi => ?_⟩
    obtain ⟨hf, o, ho, _⟩ := mem_ready.1 hi
    have hlt : i < listed.size := by rw [hs]; exact (Array.getElem?_eq_some_iff.1 ho).1
    have hls := left_set hlt hf
    exact wpOp_mono (fun a' w' h' => wpAny_inv Φ step done fuel _ a' w' (by simpa using hs) (by omega) h') (step listed a w i h hi)
/-- **the region**: Φ at the start (nothing has come up, one draw), kept by each operation that may come up, and enough for what follows when nothing is left -/
theorem wp_region_inv {id : Nat} {a : Act} {w : World} (hm : P.follows .mixedOrders = true) (Φ : Array Bool → Act → World → Prop)
    (h0 : Φ (Array.replicate ops.size false) a { w with drawn := w.drawn + 1 })
    (step : ∀ listed a w i, Φ listed a w → i ∈ Region.ready .any ops listed → wpOp P ops Q i (Φ (listed.setIfInBounds i true)) a w)
    (done : ∀ listed a w, Φ listed a w → Region.ready .any ops listed = [] → Q .normal a w) : (Code.region id ops true).wp P Q a w :=
  wp_region_any hm (wpAny_inv Φ step done _ _ _ _ (by simp) (by simp) h0)
/-- nothing is left: all have come up, where each waits only for what stands before it -/
theorem all_listed {listed : Array Bool} (hs : listed.size = ops.size) (hback : ∀ i o, ops[i]? = some o → ∀ e ∈ o.after, Region.binds md e = true → e.on < i) (hr : Region.ready md ops listed = []) : ∀ i, i < ops.size → listed.getD i false = true := by
  intro i
  induction i using Nat.strongRecOn with
  | _ i ih =>
    intro hi
    have hl : i < listed.size := by omega
    cases hb : listed.getD i false with
    | true => rfl
    | false =>
      have hm : i ∈ Region.ready md ops listed := by
        refine mem_ready.2 ⟨?_, ops[i], Array.getElem?_eq_getElem hi, fun e he hbnd => ?_⟩
        · simp only [Array.getD, hl, dite_true] at hb ⊢; exact hb
        · have hlt := hback i ops[i] (Array.getElem?_eq_getElem hi) e he hbnd
          exact ih e.on hlt (by omega)
      rw [hr] at hm; cases hm
/-- the frame is a0's but for the slots sl i of the region's operations -/
def FrameOf (ops : Array Oper) (sl : Nat → Nat) (a0 a : Act) : Prop :=
  a.tmps.size = a0.tmps.size ∧ a.defers = a0.defers ∧ ∀ k, (∀ i, i < ops.size → sl i ≠ k) → a.eval (.tmp k) = a0.eval (.tmp k)
/-- each operation waits only for what stands before it: a test that the kernel reckons -/
def backB (ops : Array Oper) : Bool := (List.range ops.size).all fun i => match ops[i]? with
  | some o => o.after.all fun e => !(Region.binds .any e) || decide (e.on < i)
  | none => true
theorem back_of {ops : Array Oper} (h : backB ops = true) : ∀ i o, ops[i]? = some o → ∀ e ∈ o.after, Region.binds .any e = true → e.on < i := by
  intro i o ho e he hb
  unfold backB at h
  rw [List.all_eq_true] at h
  have h1 := h i (List.mem_range.2 (Array.getElem?_eq_some_iff.1 ho).1)
  rw [ho] at h1
  simp only [Array.all_eq_true_iff_forall_mem] at h1
  have h2 := h1 e he
  rw [hb] at h2
  simpa using h2
/-- **a region, operation by operation**: V i says what operation i yields; it is kept when the world grows; each operation is shown once, from what it waits for. -/
theorem wp_region_vals {id : Nat} {a0 : Act} {w0 : World} (hm : P.follows .mixedOrders = true) (sl : Nat → Nat) (V : Nat → Value → World → Prop) (G : World → Prop)
    (hlt : ∀ i, i < ops.size → sl i < a0.tmps.size) (hinj : ∀ i j, i < ops.size → j < ops.size → sl i = sl j → i = j)
    (hback : ∀ i o, ops[i]? = some o → ∀ e ∈ o.after, Region.binds .any e = true → e.on < i)
    (hV : ∀ i v w w', V i v w → Below w.heap.size w w' → V i v w') (hG : ∀ w w', G w → Below w.heap.size w w' → G w')
    (h0 : G { w0 with drawn := w0.drawn + 1 })
    (hop : ∀ i o, ops[i]? = some o → ∀ a w, FrameOf ops sl a0 a → G w → (∀ e ∈ o.after, Region.binds .any e = true → V e.on (a.eval (.tmp (sl e.on))) w) →
      Region.wanted o (yielded ops a.tmps) = true ∧ o.wp P a w (fun a' w' => ∃ v, a' = a.put (some (sl i)) v ∧ V i v w' ∧ Below w.heap.size w w') Q)
    (hdone : ∀ a w, FrameOf ops sl a0 a → G w → (∀ i, i < ops.size → V i (a.eval (.tmp (sl i))) w) → Q .normal a w) : (Code.region id ops true).wp P Q a0 w0 := by
  refine wp_region_inv hm (fun listed a w => listed.size = ops.size ∧ FrameOf ops sl a0 a ∧ G w ∧ ∀ i, i < ops.size → listed.getD i false = true → V i (a.eval (.tmp (sl i))) w) ?_ ?_ ?_
  · refine ⟨by simp, ⟨rfl, rfl, fun _ _ => rfl⟩, h0, fun i hi h => ?_⟩
    simp [Array.getD, hi] at h
  · rintro listed a w i ⟨hs, hF, hg, hv⟩ hi
    obtain ⟨hf, o, ho, hdep⟩ := mem_ready.1 hi
    have hio : i < ops.size := (Array.getElem?_eq_some_iff.1 ho).1
    obtain ⟨hw, hwp⟩ := hop i o ho a w hF hg (fun e he hb => hv e.on (by have := hback i o ho e he hb; omega) (hdep e he hb))
    unfold wpOp
    rw [ho]
    simp only [hw, if_true]
    refine .inl (Oper.wp_mono (fun a' w' h => ?_) hwp)
    obtain ⟨v, rfl, hVi, hB⟩ := h
    have hsi : sl i < a.tmps.size := by rw [hF.1]; exact hlt i hio
    refine ⟨by simpa using hs, ⟨?_, ?_, ?_⟩, hG _ _ hg hB, ?_⟩
    · rw [← hF.1]; simp [Act.put]
    · rw [← hF.2.1]; rfl
    · intro k hk
      rw [Act.eval_put_ne _ _ _ _ (hk i hio)]
      exact hF.2.2 k hk
    · intro j hj hlj
      by_cases hij : i = j
      · subst hij
        rw [Act.eval_put_same _ _ _ hsi]; exact hVi
      · rw [getD_set_ne false hij] at hlj
        rw [Act.eval_put_ne _ _ _ _ (fun e => hij (hinj i j hio hj e))]
        exact hV _ _ _ _ (hv j hj hlj) hB
  · rintro listed a w ⟨hs, hF, hg, hv⟩ hr
    exact hdone a w hF hg (fun i hi => hv i hi (all_listed hs hback hr i hi))
/-- the frame is a0's but for the slots of the region's operations that are no stores -/
def FrameBut (ops : Array Oper) (sl : Nat → Nat) (s1 s2 : Nat) (a0 a : Act) : Prop :=
  a.tmps.size = a0.tmps.size ∧ a.defers = a0.defers ∧ ∀ k, (∀ i, i < ops.size → i ≠ s1 → i ≠ s2 → sl i ≠ k) → a.eval (.tmp k) = a0.eval (.tmp k)
theorem listed_set_of {listed : Array Bool} {i j : Nat} (h : (listed.setIfInBounds i true).getD j false = true) (hij : i ≠ j) : listed.getD j false = true := by
  rwa [getD_set_ne false hij] at h
theorem listed_set_same {listed : Array Bool} {i : Nat} (h : i < listed.size) : (listed.setIfInBounds i true).getD i false = true := by
  simp [Array.getD, h]
theorem listed_set_keep {listed : Array Bool} {i j : Nat} (h : listed.getD j false = true) : (listed.setIfInBounds i true).getD j false = true := by
  by_cases hij : i = j
  · subst hij
    have : i < listed.size := by
      by_cases hl : i < listed.size
      · exact hl
      · simp [Array.getD, hl] at h
    exact listed_set_same this
  · rw [getD_set_ne false hij]; exact h
theorem not_listed {listed : Array Bool} {i : Nat} (hi : i < listed.size) (h : listed.getD i true = false) : ¬ listed.getD i false = true := by
  simp only [Array.getD, hi, dite_true] at h ⊢
  rw [h]; simp
/-- **a region with two stores, the second one behind the first**: each operation is shown once; what the first store waits for runs in the world ahead of it. -/
theorem wp_region_swap {id : Nat} {a0 : Act} {w0 : World} (hm : P.follows .mixedOrders = true) (sl : Nat → Nat) (V : Nat → Value → Prop) (s1 s2 : Nat) (o1 o2 : Oper) (W1 W2 : World)
    (ho1 : ops[s1]? = some o1) (ho2 : ops[s2]? = some o2) (h12 : s1 ≠ s2)
    (hw12 : ∃ e ∈ o2.after, Region.binds .any e = true ∧ e.on = s1)
    (hlt : ∀ i, i < ops.size → i ≠ s1 → i ≠ s2 → sl i < a0.tmps.size) (hinj : ∀ i j, i < ops.size → j < ops.size → i ≠ s1 → i ≠ s2 → j ≠ s1 → j ≠ s2 → sl i = sl j → i = j)
    (hback : ∀ i o, ops[i]? = some o → ∀ e ∈ o.after, Region.binds .any e = true → e.on < i)
    (hop : ∀ i o, ops[i]? = some o → i ≠ s1 → i ≠ s2 → ∀ a w, FrameBut ops sl s1 s2 a0 a → (∀ e ∈ o.after, Region.binds .any e = true → e.on ≠ s1 → e.on ≠ s2 → V e.on (a.eval (.tmp (sl e.on)))) →
      ((∃ e ∈ o1.after, Region.binds .any e = true ∧ e.on = i) → w = { w0 with drawn := w0.drawn + 1 }) →
      Region.wanted o (yielded ops a.tmps) = true ∧ o.wp P a w (fun a' w' => ∃ v, a' = a.put (some (sl i)) v ∧ V i v ∧ w' = w) Q)
    (hop1 : ∀ a, FrameBut ops sl s1 s2 a0 a → (∀ e ∈ o1.after, Region.binds .any e = true → e.on ≠ s1 → e.on ≠ s2 → V e.on (a.eval (.tmp (sl e.on)))) →
      Region.wanted o1 (yielded ops a.tmps) = true ∧ o1.wp P a { w0 with drawn := w0.drawn + 1 } (fun a' w' => a' = a ∧ w' = W1) Q)
    (hop2 : ∀ a, FrameBut ops sl s1 s2 a0 a → (∀ e ∈ o2.after, Region.binds .any e = true → e.on ≠ s1 → e.on ≠ s2 → V e.on (a.eval (.tmp (sl e.on)))) →
      Region.wanted o2 (yielded ops a.tmps) = true ∧ o2.wp P a W1 (fun a' w' => a' = a ∧ w' = W2) Q)
    (hdone : ∀ a, FrameBut ops sl s1 s2 a0 a → (∀ i, i < ops.size → i ≠ s1 → i ≠ s2 → V i (a.eval (.tmp (sl i)))) → Q .normal a W2) : (Code.region id ops true).wp P Q a0 w0 := by
  have l1 : s1 < ops.size := (Array.getElem?_eq_some_iff.1 ho1).1
  have l2 : s2 < ops.size := (Array.getElem?_eq_some_iff.1 ho2).1
  refine wp_region_inv hm (fun listed a w => listed.size = ops.size ∧ FrameBut ops sl s1 s2 a0 a ∧ (∀ i, i < ops.size → i ≠ s1 → i ≠ s2 → listed.getD i false = true → V i (a.eval (.tmp (sl i)))) ∧
      (listed.getD s1 false = true → ∀ e ∈ o1.after, Region.binds .any e = true → listed.getD e.on false = true) ∧
      ((¬ listed.getD s1 false = true ∧ ¬ listed.getD s2 false = true ∧ w = { w0 with drawn := w0.drawn + 1 }) ∨ (listed.getD s1 false = true ∧ ¬ listed.getD s2 false = true ∧ w = W1) ∨ (listed.getD s1 false = true ∧ listed.getD s2 false = true ∧ w = W2))) ?_ ?_ ?_
  · refine ⟨by simp, ⟨rfl, rfl, fun _ _ => rfl⟩, fun i hi _ _ h => ?_, fun h => ?_, .inl ⟨?_, ?_, rfl⟩⟩
    · simp [Array.getD, hi] at h
    · simp [Array.getD, l1] at h
    · simp [Array.getD, l1]
    · simp [Array.getD, l2]
  · rintro listed a w i ⟨hs, hF, hv, hd1, hw⟩ hi
    obtain ⟨hf, o, ho, hdep⟩ := mem_ready.1 hi
    have hio : i < ops.size := (Array.getElem?_eq_some_iff.1 ho).1
    have hnl : ¬ listed.getD i false = true := not_listed (by omega) hf
    have hdeps : ∀ e ∈ o.after, Region.binds .any e = true → e.on ≠ s1 → e.on ≠ s2 → V e.on (a.eval (.tmp (sl e.on))) := fun e he hb n1 n2 => hv e.on (by have := hback i o ho e he hb; omega) n1 n2 (hdep e he hb)
    by_cases i1 : i = s1
    · subst i1
      rw [ho1] at ho; cases ho
      have hw0 : w = { w0 with drawn := w0.drawn + 1 } ∧ ¬ listed.getD s2 false = true := by
        rcases hw with ⟨_, h, h'⟩ | ⟨h, _⟩ | ⟨h, _⟩
        · exact ⟨h', h⟩
        · exact absurd h hnl
        · exact absurd h hnl
      obtain ⟨rfl, hn2⟩ := hw0
      obtain ⟨hw, hwp⟩ := hop1 a hF hdeps
      unfold wpOp
      rw [ho1]
      simp only [hw, if_true]
      refine .inl (Oper.wp_mono (fun a' w' h => ?_) hwp)
      obtain ⟨rfl, rfl⟩ := h
      refine ⟨by simpa using hs, hF, fun j hj j1 j2 hlj => hv j hj j1 j2 (listed_set_of hlj (Ne.symm j1)), fun _ e he hb => listed_set_keep (hdep e he hb), .inr (.inl ⟨listed_set_same (by omega), ?_, rfl⟩)⟩
      intro h
      exact hn2 (listed_set_of h h12)
    · by_cases i2 : i = s2
      · subst i2
        rw [ho2] at ho; cases ho
        obtain ⟨e, he, hb, rfl⟩ := hw12
        have hl1 := hdep e he hb
        have hw0 : w = W1 := by
          rcases hw with ⟨h, _⟩ | ⟨_, _, h⟩ | ⟨_, h, _⟩
          · exact absurd hl1 h
          · exact h
          · exact absurd h hnl
        subst hw0
        obtain ⟨hw, hwp⟩ := hop2 a hF hdeps
        unfold wpOp
        rw [ho2]
        simp only [hw, if_true]
        refine .inl (Oper.wp_mono (fun a' w' h => ?_) hwp)
        obtain ⟨rfl, rfl⟩ := h
        exact ⟨by simpa using hs, hF, fun j hj j1 j2 hlj => hv j hj j1 j2 (listed_set_of hlj (Ne.symm j2)), fun h e' he' hb' => listed_set_keep (hd1 (listed_set_of h (Ne.symm h12)) e' he' hb'), .inr (.inr ⟨listed_set_keep hl1, listed_set_same (by omega), rfl⟩)⟩
      · have hw0 : (∃ e ∈ o1.after, Region.binds .any e = true ∧ e.on = i) → w = { w0 with drawn := w0.drawn + 1 } := by
          rintro ⟨e, he, hb, rfl⟩
          rcases hw with ⟨_, _, h⟩ | ⟨h, _⟩ | ⟨h, _⟩
          · exact h
          · exact absurd (hd1 h e he hb) hnl
          · exact absurd (hd1 h e he hb) hnl
        obtain ⟨hwt, hwp⟩ := hop i o ho i1 i2 a w hF hdeps hw0
        unfold wpOp
        rw [ho]
        simp only [hwt, if_true]
        refine .inl (Oper.wp_mono (fun a' w' h => ?_) hwp)
        obtain ⟨v, rfl, hVi, rfl⟩ := h
        have hsi : sl i < a.tmps.size := by rw [hF.1]; exact hlt i hio i1 i2
        refine ⟨by simpa using hs, ⟨?_, ?_, ?_⟩, ?_, fun h e he hb => listed_set_keep (hd1 (listed_set_of h i1) e he hb), ?_⟩
        · rw [← hF.1]; simp [Act.put]
        · rw [← hF.2.1]; rfl
        · intro k hk
          rw [Act.eval_put_ne _ _ _ _ (hk i hio i1 i2)]
          exact hF.2.2 k hk
        · intro j hj j1 j2 hlj
          by_cases hij : i = j
          · subst hij
            rw [Act.eval_put_same _ _ _ hsi]; exact hVi
          · rw [getD_set_ne false hij] at hlj
            rw [Act.eval_put_ne _ _ _ _ (fun e => hij (hinj i j hio hj i1 i2 j1 j2 e))]
            exact hv j hj j1 j2 hlj
        · rw [getD_set_ne false i1, getD_set_ne false i2]; exact hw
  · rintro listed a w ⟨hs, hF, hv, hd1, hw⟩ hr
    have hall := all_listed hs hback hr
    rcases hw with ⟨h, _⟩ | ⟨_, h, _⟩ | ⟨_, _, rfl⟩
    · exact absurd (hall s1 l1) h
    · exact absurd (hall s2 l2) h
    · exact hdone a hF (fun i hi i1 i2 => hv i hi i1 i2 (hall i hi))
/-- the frame behind: what stood there, with some slots laid anew -/
theorem act_ext {a b : Act} (hs : a.tmps.size = b.tmps.size) (hd : a.defers = b.defers) (h : ∀ k, k < a.tmps.size → a.eval (.tmp k) = b.eval (.tmp k)) : a = b := by
  obtain ⟨at_, ad⟩ := a
  obtain ⟨bt, bd⟩ := b
  simp only at hs hd
  subst hd
  congr 1
  refine Array.ext hs (fun i h1 h2 => ?_)
  have := h i h1
  simp only [Act.eval, Array.getD, h1, h2, dite_true] at this
  exact this
theorem eval_puts (a : Act) (ks : List Nat) : ∀ (b : Act) (k : Nat), a.tmps.size = b.tmps.size → k < b.tmps.size → (ks.foldl (fun b k => b.put (some k) (a.eval (.tmp k))) b).eval (.tmp k) = if k ∈ ks then a.eval (.tmp k) else b.eval (.tmp k) := by
  induction ks with
  | nil => intro b k _ _; simp
  | cons j ks ih =>
    intro b k hs hk
    rw [List.foldl_cons, ih _ k (by simpa [Act.put] using hs) (by simpa [Act.put] using hk)]
    by_cases h : k ∈ ks
    · rw [if_pos h, if_pos (by simp [h])]
    · rw [if_neg h]
      by_cases hj : k = j
      · subst hj
        rw [Act.eval_put_same _ _ _ hk, if_pos (by simp)]
      · rw [Act.eval_put_ne _ _ _ _ (Ne.symm hj), if_neg (by simp [h, hj])]
theorem size_puts (a : Act) (ks : List Nat) : ∀ (b : Act), (ks.foldl (fun b k => b.put (some k) (a.eval (.tmp k))) b).tmps.size = b.tmps.size ∧ (ks.foldl (fun b k => b.put (some k) (a.eval (.tmp k))) b).defers = b.defers := by
  induction ks with
  | nil => intro b; exact ⟨rfl, rfl⟩
  | cons j ks ih =>
    intro b
    rw [List.foldl_cons]
    obtain ⟨h1, h2⟩ := ih (b.put (some j) (a.eval (.tmp j)))
    exact ⟨by rw [h1]; simp [Act.put], by rw [h2]; rfl⟩
theorem FrameBut.eq {sl : Nat → Nat} {s1 s2 : Nat} {a0 a : Act} (hF : FrameBut ops sl s1 s2 a0 a) (ks : List Nat) (hk : ∀ i, i < ops.size → i ≠ s1 → i ≠ s2 → sl i ∈ ks) : a = ks.foldl (fun b k => b.put (some k) (a.eval (.tmp k))) a0 := by
  obtain ⟨h1, h2⟩ := size_puts a ks a0
  refine act_ext (by rw [h1, hF.1]) (by rw [h2, hF.2.1]) (fun k hlt => ?_)
  rw [eval_puts a ks a0 k hF.1 (by rw [← hF.1]; exact hlt)]
  split
  · rfl
  · rename_i hn
    exact hF.2.2 k (fun i hi i1 i2 e => hn (e ▸ hk i hi i1 i2))
theorem FrameOf.eq {sl : Nat → Nat} {a0 a : Act} (hF : FrameOf ops sl a0 a) (ks : List Nat) (hk : ∀ i, i < ops.size → sl i ∈ ks) : a = ks.foldl (fun b k => b.put (some k) (a.eval (.tmp k))) a0 := by
  obtain ⟨h1, h2⟩ := size_puts a ks a0
  refine act_ext (by rw [h1, hF.1]) (by rw [h2, hF.2.1]) (fun k hlt => ?_)
  rw [eval_puts a ks a0 k hF.1 (by rw [← hF.1]; exact hlt)]
  split
  · rfl
  · rename_i hn
    exact hF.2.2 k (fun i hi e => hn (e ▸ hk i hi))
end Go.Proofs.YtbclodbneonipaaGreat
namespace Go.Proofs.YtbclodbneonipaaGreat
open Go.RowKit N
def cmpI (x y : Int) : Int := if x < y then -1 else if y < x then 1 else 0
set_option maxHeartbeats 400000 in
theorem nan48 (x : Int) (w : World) : Calls Tryz.prog 48 #[.int .i64 x] w fun e w' => e = .returned (.bool false) ∧ w = w' := by
  have h : (x != x) = false := by simp
  go_enter Tryz.func48, Tryz.ntmps48
  go_wp2
  go_ret
  exact ⟨ret_bool (by simp), rfl⟩
set_option maxHeartbeats 400000 in
theorem nan49 (x : Int) (w : World) : Calls Tryz.prog 49 #[.int .u8 x] w fun e w' => e = .returned (.bool false) ∧ w = w' := by
  have h : (x != x) = false := by simp
  go_enter Tryz.func49, Tryz.ntmps49
  go_wp2
  go_ret
  exact ⟨ret_bool (by simp), rfl⟩
set_option maxHeartbeats 1000000 in
theorem compare30 (x y : Int) (w : World) : Calls Tryz.prog 30 #[.int .i64 x, .int .i64 y] w fun e w' => e = .returned (.int .i64 (cmpI x y)) ∧ w = w' := by
  by_cases h1 : x < y
  · have HC := Lib.hid (show cmpI x y = -1 by unfold cmpI; rw [if_pos h1])
    go_enter Tryz.func30, Tryz.ntmps30
    go_wp2_with (first | (go_at_call 48; refine (nan48 _ _).mono ?_; rintro e w' ⟨rfl, rfl⟩))
    go_ret
    exact ⟨ret_int (by rw [HC.out]), rfl⟩
  · by_cases h2 : y < x
    · have HC := Lib.hid (show cmpI x y = 1 by unfold cmpI; rw [if_neg h1, if_pos h2])
      go_enter Tryz.func30, Tryz.ntmps30
      go_wp2_with (first | (go_at_call 48; refine (nan48 _ _).mono ?_; rintro e w' ⟨rfl, rfl⟩))
      go_ret
      exact ⟨ret_int (by rw [HC.out]), rfl⟩
    · have HC := Lib.hid (show cmpI x y = 0 by unfold cmpI; rw [if_neg h1, if_neg h2])
      go_enter Tryz.func30, Tryz.ntmps30
      go_wp2_with (first | (go_at_call 48; refine (nan48 _ _).mono ?_; rintro e w' ⟨rfl, rfl⟩))
      go_ret
      exact ⟨ret_int (by rw [HC.out]), rfl⟩
set_option maxHeartbeats 1000000 in
theorem compare31 (x y : Int) (w : World) : Calls Tryz.prog 31 #[.int .u8 x, .int .u8 y] w fun e w' => e = .returned (.int .i64 (cmpI x y)) ∧ w = w' := by
  by_cases h1 : x < y
  · have HC := Lib.hid (show cmpI x y = -1 by unfold cmpI; rw [if_pos h1])
    go_enter Tryz.func31, Tryz.ntmps31
    go_wp2_with (first | (go_at_call 49; refine (nan49 _ _).mono ?_; rintro e w' ⟨rfl, rfl⟩))
    go_ret
    exact ⟨ret_int (by rw [HC.out]), rfl⟩
  · by_cases h2 : y < x
    · have HC := Lib.hid (show cmpI x y = 1 by unfold cmpI; rw [if_neg h1, if_pos h2])
      go_enter Tryz.func31, Tryz.ntmps31
      go_wp2_with (first | (go_at_call 49; refine (nan49 _ _).mono ?_; rintro e w' ⟨rfl, rfl⟩))
      go_ret
      exact ⟨ret_int (by rw [HC.out]), rfl⟩
    · have HC := Lib.hid (show cmpI x y = 0 by unfold cmpI; rw [if_neg h1, if_neg h2])
      go_enter Tryz.func31, Tryz.ntmps31
      go_wp2_with (first | (go_at_call 49; refine (nan49 _ _).mono ?_; rintro e w' ⟨rfl, rfl⟩))
      go_ret
      exact ⟨ret_int (by rw [HC.out]), rfl⟩
def orI (a b : Int) : Int := if a = 0 then b else a
set_option maxHeartbeats 1000000 in
theorem or29 (g : Nat) (a b : Int) (w : World) (h : Has w g (.cells #[.int .i64 a, .int .i64 b] 3)) : Calls Tryz.prog 29 #[.slice (some ⟨g, 0, none⟩) 2 2] w fun e w' => e = .returned (.int .i64 (orI a b)) ∧ w = w' := by
  have c0 : w.cell? ⟨g, 0, none⟩ = some (.int .i64 a) := h.cell 0 rfl
  have c1 : w.cell? ⟨g, 1, none⟩ = some (.int .i64 b) := h.cell 1 rfl
  clear h
  by_cases ha : a = 0
  · have e1 : (a != 0) = false := by simp [ha]
    by_cases hb : b = 0
    · have e2 : (b != 0) = false := by simp [hb]
      have HC := Lib.hid (show orI a b = 0 by unfold orI; rw [if_pos ha, hb])
      clear ha hb
      go_enter Tryz.func29, Tryz.ntmps29
      go_wp2
      refine wp_loop_rounds 3 ?_
      rw [rounds_succ]
      go_wp2
      rw [rounds_succ]
      go_wp2
      rw [rounds_succ]
      go_wp2
      go_ret
      exact ⟨ret_int (by rw [HC.out]), rfl⟩
    · have e2 : (b != 0) = true := by simp [hb]
      have HC := Lib.hid (show orI a b = b by unfold orI; rw [if_pos ha])
      clear ha hb
      go_enter Tryz.func29, Tryz.ntmps29
      go_wp2
      refine wp_loop_rounds 2 ?_
      rw [rounds_succ]
      go_wp2
      rw [rounds_succ]
      go_wp2
      go_ret
      exact ⟨ret_int (by rw [HC.out]), rfl⟩
  · have e1 : (a != 0) = true := by simp [ha]
    have HC := Lib.hid (show orI a b = a by unfold orI; rw [if_neg ha])
    clear ha
    go_enter Tryz.func29, Tryz.ntmps29
    go_wp2
    refine wp_loop_rounds 1 ?_
    rw [rounds_succ]
    go_wp2
    go_ret
    exact ⟨ret_int (by rw [HC.out]), rfl⟩
end Go.Proofs.YtbclodbneonipaaGreat
