import Derived.OrdersIn
import Derived.Below
import Derived.Great.Frames
import Derived.Test.YtempmmkdppelaaaGreatDoorWSM
import Derived.Test.YtempmmkdppelaaaGreatDoorCSM
import Derived.Shelf.Strings.FieldsFuncGrows
/-
  A region that draws its order, inside a fence, whose last operations are a forced chain: one step for each operation ahead of the chain (by an invariant over what has come up), then the chain as a list. Not tied to a program.
-/
namespace Go.Proofs.YtempmmkdppelaaaGreatDoor
open Go.RowKit
variable {F : Fence} {n : Nat} {P : Program} {ops : Array Oper} {Q : Exit → Act → World → Prop} {md : Region.Mode}
theorem left_set {listed : Array Bool} {i : Nat} (h : i < listed.size) (hf : listed.getD i true = false) : (listed.setIfInBounds i true).toList.count false + 1 = listed.toList.count false := by
  have hl : listed.toList[i]'(by simpa using h) = false := by
    simpa [Array.getD, h] using hf
  rw [Array.toList_setIfInBounds, List.count_set (by simpa using h), hl]
  have : 0 < listed.toList.count false := List.count_pos_iff.2 (by rw [← hl]; exact List.getElem_mem _)
  have e1 : ((false == false) = true) := rfl
  have e2 : ¬ ((true == false) = true) := by decide
  rw [if_pos e1, if_neg e2]
  omega
theorem wpAnyIn_inv (Φ : Array Bool → Act → World → Prop)
    (step : ∀ listed a w i, Φ listed a w → i ∈ Region.ready md ops listed → wpOpIn F n P ops Q i (Φ (listed.setIfInBounds i true)) a w)
    (done : ∀ listed a w, Φ listed a w → Region.ready md ops listed = [] → Q .normal a w) :
    ∀ (fuel : Nat) (listed : Array Bool) (a : Act) (w : World), listed.size = ops.size → listed.toList.count false ≤ fuel → Φ listed a w → wpAnyIn F n P md ops Q fuel listed a w
  | 0, listed, a, w, hs, hc, h => by
    have hr : Region.ready md ops listed = [] := by
      rw [List.eq_nil_iff_forall_not_mem]
      intro i hi
      have hm := mem_ready.1 hi
      obtain ⟨hf, o, ho, _⟩ := hm
      have hlt : i < listed.size := by rw [hs]; exact (Array.getElem?_eq_some_iff.1 ho).1
      have := left_set hlt hf
      omega
    exact ⟨hr, done _ _ _ h hr⟩
  | fuel + 1, listed, a, w, hs, hc, h => by
    refine ⟨fun hr => done _ _ _ h hr, fun i hi => ?_⟩
    obtain ⟨hf, o, ho, _⟩ := mem_ready.1 hi
    have hlt : i < listed.size := by rw [hs]; exact (Array.getElem?_eq_some_iff.1 ho).1
    have hls := left_set hlt hf
    exact wpOpIn_mono (fun a' w' h' => wpAnyIn_inv Φ step done fuel _ a' w' (by simpa using hs) (by omega) h') (step listed a w i h hi)
theorem wpIn_region_inv {id : Nat} {a : Act} {w : World} (hm : P.follows .mixedOrders = true) (Φ : Array Bool → Act → World → Prop)
    (h0 : Φ (Array.replicate ops.size false) a { w with drawn := w.drawn + 1 })
    (step : ∀ listed a w i, Φ listed a w → i ∈ Region.ready .any ops listed → wpOpIn F n P ops Q i (Φ (listed.setIfInBounds i true)) a w)
    (done : ∀ listed a w, Φ listed a w → Region.ready .any ops listed = [] → Q .normal a w) : (Code.region id ops true).wpIn F n P Q a w :=
  wpIn_region_any hm (wpAnyIn_inv Φ step done _ _ _ _ (by simp) (by simp) h0)
theorem all_listed {listed : Array Bool} (hs : listed.size = ops.size) (hback : ∀ i o, ops[i]? = some o → ∀ e ∈ o.after, Region.binds md e = true → e.on < i) (hr : Region.ready md ops listed = []) : ∀ i, i < ops.size → listed.getD i false = true := by
  intro i
  induction i using Nat.strongRecOn with
  | _ i ih =>
    intro hi
    have hl : i < listed.size := by omega
    cases hb : listed.getD i false with
    | true => rfl
    | false =>
      have hm : i ∈ Region.ready md ops listed := by
        refine mem_ready.2 ⟨?_, ops[i], Array.getElem?_eq_getElem hi, fun e he hbnd => ?_⟩
        · simp only [Array.getD, hl, dite_true] at hb ⊢; exact hb
        · have hlt := hback i ops[i] (Array.getElem?_eq_getElem hi) e he hbnd
          exact ih e.on hlt (by omega)
      rw [hr] at hm; cases hm
/-- each operation waits only for what stands before it: a test that the kernel reckons -/
def backB (ops : Array Oper) : Bool := (List.range ops.size).all fun i => match ops[i]? with
  | some o => o.after.all fun e => !(Region.binds .any e) || decide (e.on < i)
  | none => true
theorem back_of {ops : Array Oper} (h : backB ops = true) : ∀ i o, ops[i]? = some o → ∀ e ∈ o.after, Region.binds .any e = true → e.on < i := by
  intro i o ho e he hb
  unfold backB at h
  rw [List.all_eq_true] at h
  have h1 := h i (List.mem_range.2 (Array.getElem?_eq_some_iff.1 ho).1)
  rw [ho] at h1
  simp only [Array.all_eq_true_iff_forall_mem] at h1
  have h2 := h1 e he
  rw [hb] at h2
  simpa using h2
/-- whatever operation i waits for, itself or by others: what the test reckons -/
def reachB (ops : Array Oper) : Nat → Nat → Nat → Bool
  | 0, _, _ => false
  | fuel + 1, i, j => match ops[i]? with
    | some o => o.after.any fun e => Region.binds .any e && (e.on == j || reachB ops fuel e.on j)
    | none => false
/-- from m on each operation waits for all that stand before it -/
def chainB (ops : Array Oper) (m : Nat) : Bool := (List.range ops.size).all fun j => decide (j < m) || (List.range j).all fun i => reachB ops ops.size j i
def Closed (ops : Array Oper) (listed : Array Bool) : Prop := ∀ i o, ops[i]? = some o → listed.getD i false = true → ∀ e ∈ o.after, Region.binds .any e = true → listed.getD e.on false = true
theorem reach_listed {listed : Array Bool} (hc : Closed ops listed) : ∀ (fuel i j : Nat), reachB ops fuel i j = true → (∀ o, ops[i]? = some o → ∀ e ∈ o.after, Region.binds .any e = true → listed.getD e.on false = true) → listed.getD j false = true
  | 0, _, _, h, _ => by cases h
  | fuel + 1, i, j, h, hd => by
    unfold reachB at h
    cases ho : ops[i]? with
    | none => rw [ho] at h; cases h
    | some o =>
      rw [ho] at h
      obtain ⟨k, hk, h⟩ := Array.any_eq_true.1 h
      have he := Array.getElem_mem (xs := o.after) hk
      generalize o.after[k] = e at *
      rw [Bool.and_eq_true, Bool.or_eq_true] at h
      obtain ⟨hb, h⟩ := h
      have hl := hd o ho e he hb
      rcases h with h | h
      · rw [← beq_iff_eq.1 h]; exact hl
      · exact reach_listed hc fuel e.on j h (fun o' ho' e' he' hb' => hc e.on o' ho' hl e' he' hb')
theorem chain_all {m : Nat} (h : chainB ops m = true) {listed : Array Bool} (hc : Closed ops listed) {j : Nat} (hm : m ≤ j) (hj : j ∈ Region.ready .any ops listed) : ∀ i, i < j → listed.getD i false = true := by
  intro i hi
  obtain ⟨_, o, ho, hdep⟩ := mem_ready.1 hj
  have hjs : j < ops.size := (Array.getElem?_eq_some_iff.1 ho).1
  unfold chainB at h
  rw [List.all_eq_true] at h
  have h1 := h j (List.mem_range.2 hjs)
  rw [Bool.or_eq_true, decide_eq_true_eq] at h1
  rcases h1 with h1 | h1
  · omega
  · rw [List.all_eq_true] at h1
    exact reach_listed hc _ j i (h1 i (List.mem_range.2 hi)) (fun o' ho' e he hb => by
      rw [ho] at ho'; cases ho'; exact hdep e he hb)
/-- the frame is a0's but for the slots sl i, i < m -/
def FrameOf (m : Nat) (sl : Nat → Nat) (a0 a : Act) : Prop :=
  a.tmps.size = a0.tmps.size ∧ a.defers = a0.defers ∧ ∀ k, (∀ i, i < m → sl i ≠ k) → a.eval (.tmp k) = a0.eval (.tmp k)
theorem getD_true {listed : Array Bool} {i j : Nat} (hi : i < listed.size) : (listed.setIfInBounds i true).getD j false = (if i = j then true else listed.getD j false) := by
  by_cases h : i = j
  · subst h; rw [if_pos rfl]; simp [Array.getD, hi]
  · rw [if_neg h, getD_set_ne false h]
/-- **a region inside a fence**: the operations ahead of m in whatever order, each shown once; then those from m on, one behind the other -/
theorem wpIn_region_tail {id : Nat} {a0 : Act} {w0 : World} (hm : P.follows .mixedOrders = true) (m : Nat) (hmN : m < ops.size) (sl : Nat → Nat) (V : Nat → Value → World → Prop) (G : World → Prop)
    (hlt : ∀ i, i < m → sl i < a0.tmps.size) (hinj : ∀ i j, i < m → j < m → sl i = sl j → i = j)
    (hback : backB ops = true) (hchain : chainB ops m = true)
    (hV : ∀ i v w w', V i v w → Below w.heap.size w w' → V i v w') (hG : ∀ w w', G w → Below w.heap.size w w' → G w')
    (h0 : G { w0 with drawn := w0.drawn + 1 })
    (hop : ∀ i o, i < m → ops[i]? = some o → ∀ a w, FrameOf m sl a0 a → G w → (∀ e ∈ o.after, Region.binds .any e = true → V e.on (a.eval (.tmp (sl e.on))) w) →
      Region.wanted o (yielded ops a.tmps) = true ∧ o.wpIn F n P a w (fun a' w' => ∃ v, a' = a.put (some (sl i)) v ∧ V i v w' ∧ Below w.heap.size w w') Q)
    (htail : ∀ a w, FrameOf m sl a0 a → G w → (∀ i, i < m → V i (a.eval (.tmp (sl i))) w) → wpOpsIn F n P ops Q (List.range' m (ops.size - m)) a w) : (Code.region id ops true).wpIn F n P Q a0 w0 := by
  have hb := back_of hback
  refine wpIn_region_inv hm (fun listed a w => listed.size = ops.size ∧ Closed ops listed ∧
    (((∀ j, m ≤ j → listed.getD j false = false) ∧ FrameOf m sl a0 a ∧ G w ∧ ∀ i, i < m → listed.getD i false = true → V i (a.eval (.tmp (sl i))) w) ∨
     (∃ j, m ≤ j ∧ (∀ i, i < j + 1 → listed.getD i false = true) ∧ (∀ i, j < i → listed.getD i false = false) ∧ wpOpsIn F n P ops Q (List.range' (j + 1) (ops.size - (j + 1))) a w))) ?_ ?_ ?_
  · refine ⟨by simp, fun i o ho h => ?_, .inl ⟨fun j _ => ?_, ⟨rfl, rfl, fun _ _ => rfl⟩, h0, fun i hi h => ?_⟩⟩
    · simp [Array.getD] at h
    · simp [Array.getD]
    · simp [Array.getD] at h
  · rintro listed a w i ⟨hs, hc, hph⟩ hi
    obtain ⟨hf, o, ho, hdep⟩ := mem_ready.1 hi
    have hio : i < ops.size := (Array.getElem?_eq_some_iff.1 ho).1
    have hil : i < listed.size := by omega
    have hnl : listed.getD i false = false := by
      simp only [Array.getD, hil, dite_true] at hf ⊢; exact hf
    have hc' : Closed ops (listed.setIfInBounds i true) := by
      intro k o' ho' hk e he hbe
      rw [getD_true hil] at hk ⊢
      by_cases hik : i = k
      · subst hik
        rw [ho] at ho'; cases ho'
        have := hdep e he hbe
        split
        · rfl
        · exact this
      · rw [if_neg hik] at hk
        have := hc k o' ho' hk e he hbe
        split
        · rfl
        · exact this
    have hs' : (listed.setIfInBounds i true).size = ops.size := by simpa using hs
    have tail_step : ∀ a w, (∀ k, k < i → listed.getD k false = true) → (∀ k, i < k → listed.getD k false = false) → m ≤ i → wpOpsIn F n P ops Q (List.range' i (ops.size - i)) a w →
        wpOpIn F n P ops Q i (fun a w => (listed.setIfInBounds i true).size = ops.size ∧ Closed ops (listed.setIfInBounds i true) ∧
          (((∀ j, m ≤ j → (listed.setIfInBounds i true).getD j false = false) ∧ FrameOf m sl a0 a ∧ G w ∧ ∀ i', i' < m → (listed.setIfInBounds i true).getD i' false = true → V i' (a.eval (.tmp (sl i'))) w) ∨
           (∃ j, m ≤ j ∧ (∀ i', i' < j + 1 → (listed.setIfInBounds i true).getD i' false = true) ∧ (∀ i', j < i' → (listed.setIfInBounds i true).getD i' false = false) ∧ wpOpsIn F n P ops Q (List.range' (j + 1) (ops.size - (j + 1))) a w))) a w := by
      intro a w hall hno hmi hT
      have e : List.range' i (ops.size - i) = i :: List.range' (i + 1) (ops.size - (i + 1)) := by
        rw [show ops.size - i = (ops.size - (i + 1)) + 1 by omega, List.range'_succ]
      rw [e, wpOpsIn_cons] at hT
      refine wpOpIn_mono (fun a' w' h' => ⟨hs', hc', .inr ⟨i, hmi, fun i' hi' => ?_, fun i' hi' => ?_, h'⟩⟩) hT
      · rw [getD_true hil]
        split
        · rfl
        · exact hall i' (by omega)
      · rw [getD_true hil, if_neg (by omega)]; exact hno i' hi'
    rcases hph with ⟨hnom, hF, hg, hv⟩ | ⟨j, hmj, hall, hno, hT⟩
    · by_cases him : i < m
      · obtain ⟨hw, hwp⟩ := hop i o him ho a w hF hg (fun e he hbe => hv e.on (by have := hb i o ho e he hbe; omega) (hdep e he hbe))
        unfold wpOpIn
        rw [ho]
        simp only [hw, if_true]
        refine Oper.wpIn_mono (fun a' w' h => ?_) hwp
        obtain ⟨v, rfl, hVi, hB⟩ := h
        have hsi : sl i < a.tmps.size := by rw [hF.1]; exact hlt i him
        refine ⟨hs', hc', .inl ⟨fun j hj => ?_, ⟨?_, ?_, ?_⟩, hG _ _ hg hB, ?_⟩⟩
        · rw [getD_true hil, if_neg (by omega)]; exact hnom j hj
        · rw [← hF.1]; simp [Act.put]
        · rw [← hF.2.1]; rfl
        · intro k hk
          rw [Act.eval_put_ne _ _ _ _ (hk i him)]
          exact hF.2.2 k hk
        · intro j hj hlj
          by_cases hij : i = j
          · subst hij
            rw [Act.eval_put_same _ _ _ hsi]; exact hVi
          · rw [getD_true hil, if_neg hij] at hlj
            rw [Act.eval_put_ne _ _ _ _ (fun e => hij (hinj i j him hj e))]
            exact hV _ _ _ _ (hv j hj hlj) hB
      · have hall := chain_all hchain hc (Nat.le_of_not_lt him) hi
        have him' : i = m := by
          by_cases h : i = m
          · exact h
          · have := hall m (by omega)
            rw [hnom m (Nat.le_refl _)] at this; cases this
        subst him'
        exact tail_step a w hall (fun k hk => hnom k (by omega)) (Nat.le_refl _) (htail a w hF hg (fun k hk => hv k hk (hall k hk)))
    · have hji : j < i := by
        rcases Nat.lt_or_ge j i with h | h
        · exact h
        · have := hall i (by omega); rw [hnl] at this; cases this
      have hall' := chain_all hchain hc (by omega) hi
      have hij : i = j + 1 := by
        by_cases h : i = j + 1
        · exact h
        · have := hall' (j + 1) (by omega)
          rw [hno (j + 1) (by omega)] at this; cases this
      subst hij
      exact tail_step a w hall' (fun k hk => hno k (by omega)) (by omega) hT
  · rintro listed a w ⟨hs, hc, hph⟩ hr
    have hal := all_listed hs hb hr
    rcases hph with ⟨hnom, _⟩ | ⟨j, hmj, hall, hno, hT⟩
    · have := hal m hmN
      rw [hnom m (Nat.le_refl _)] at this; cases this
    · have hj : ops.size - (j + 1) = 0 := by
        rcases Nat.lt_or_ge (j + 1) ops.size with h | h
        · have := hal (j + 1) h
          rw [hno (j + 1) (by omega)] at this; cases this
        · omega
      rw [hj] at hT
      exact hT
end Go.Proofs.YtempmmkdppelaaaGreatDoor
/-
  csp's Parse: what a text is read as, and the walk's set-up.
-/
namespace Go.Proofs.YtempmmkdppelaaaGreatDoor
open Go.RowKit Go.Shelf
attribute [local go_sem] Oper.semAt_some
/-- the words of a part -/
def wordsL (p : List UInt8) : List ByteArray := Lib.goFieldsP blankR ⟨p.toArray⟩
/-- one part more: none is: too many -/
def stepD (st : Option (List Dir)) (p : List UInt8) : Option (List Dir) :=
  match st with
  | none => none
  | some l => match wordsL p with
    | [] => some l
    | a :: vs => if l.any (isD (lowS a)) then some l else if l.length = 64 ∨ 64 < vs.length then none else some (l ++ [(lowS a, vs)])
def partsD (ps : List (List UInt8)) : Option (List Dir) := ps.foldl stepD (some [])
/-- the directives of a text -/
def parseD (s : List UInt8) : Option (List Dir) := partsD (Ks.partsAt 59 s)
theorem partsD_snoc (ps : List (List UInt8)) (p : List UInt8) : partsD (ps ++ [p]) = stepD (partsD ps) p := by unfold partsD; rw [List.foldl_append]; rfl
/-- a directive's cells: its name and where its values lie -/
structure RD where
  n : ByteArray
  q : Option Addr
  c : Nat
  vs : List ByteArray
def RD.dir (r : RD) : Dir := (r.n, r.vs)
def RD.val (r : RD) : Value := .slice r.q r.vs.length r.c
def encR (l : List RD) : List Value := l.flatMap fun r => [.string r.n, r.val]
theorem encR_len (l : List RD) : (encR l).length = l.length * 2 := by
  induction l with
  | nil => rfl
  | cons x l ih => unfold encR at ih ⊢; rw [List.flatMap_cons, List.length_append, ih]; simp; omega
theorem encR_snoc (l : List RD) (r : RD) : encR (l ++ [r]) = encR l ++ [.string r.n, r.val] := by unfold encR; rw [List.flatMap_append]; simp
theorem info35f : (Tryz.prog.info? 35).map (fun i => (i.zero, i.size, i.bytes)) = some (some (.agg #[.string ⟨#[]⟩, .slice none 0 0]), 2, 40) := by kernel_rfl
open Ks in
/-- what may change: the iterator's box alone -/
def OnlyBx (B bx : Nat) (A C : World) (row : Option Nat) : Prop := ∀ r, row = some r → (B ≤ r ∧ ∃ o : Obj, A.heap[r]? = some o ∧ o.isCells = false) ∨ (r = bx ∧ Ks.TextBox 9 bx A ∧ Ks.TextBox 9 bx C)
theorem has_keep {A C : World} {row : Option Nat} {B bx k t : Nat} {cs : Array Value} (hg : A.grownBy C row) (hr : OnlyBx B bx A C row) (h : Has A k (.cells cs t)) (hk : k ≠ bx) : Has C k (.cells cs t) := by
  refine (hg.block k h.lt (fun e => ?_)).trans h
  rcases hr k e.symm with ⟨_, o, ho, hc⟩ | ⟨e2, _⟩
  · rw [show A.heap[k]? = _ from h] at ho; cases ho; cases hc
  · exact hk e2
theorem own_keep {A C : World} {row : Option Nat} {B bx D e size n : Nat} {v : Value} {xs : List Value} (hg : A.grownBy C row) (hr : OnlyBx B bx A C row) (hD : bx < D) (h : A.ownsRow D e size v n xs) : C.ownsRow D e size v n xs := by
  refine h.kept hg ?_
  rcases h.2 with ⟨rfl, _⟩ | ⟨g, cap, cur, rfl, hDg, hgb, _⟩
  · exact .inl rfl
  · refine .inr fun e' => ?_
    rcases hr g (by simpa [Value.ownBlock] using e'.symm) with ⟨_, o, ho, hc⟩ | ⟨e2, _⟩
    · rw [hgb] at ho; cases ho; cases hc
    · omega
theorem text_keep {A C : World} {row : Option Nat} {B bx : Nat} (hg : A.grownBy C row) (hr : OnlyBx B bx A C row) (h : Ks.TextBox 9 bx A) : Ks.TextBox 9 bx C := by
  by_cases e : row = some bx
  · rcases hr bx e with ⟨_, o, ho, hc⟩ | ⟨_, _, h'⟩
    · obtain ⟨x, hx⟩ := h
      rw [hx] at ho; cases ho; cases hc
    · exact h'
  · obtain ⟨x, hx⟩ := h
    exact ⟨x, (hg.block bx (Array.getElem?_eq_some_iff.1 hx).1 (fun h => e h.symm)).trans hx⟩
theorem below_keep {w A C : World} {row : Option Nat} {B bx : Nat} (hg : A.grownBy C row) (hr : OnlyBx B bx A C row) (hB : w.heap.size ≤ B) (hbx : w.heap.size ≤ bx) (h : Below w.heap.size w A) : Below w.heap.size w C := by
  refine h.grown hg h.size fun k e => ?_
  rcases hr k e with ⟨h, _⟩ | ⟨h, _⟩ <;> omega
/-- the directives lie at v, of the call's own -/
structure OwnD (W : World) (D : Nat) (v : Value) (rs : List RD) : Prop where
  row : W.ownsRow D 35 2 v rs.length (encR rs)
  vals : ∀ r ∈ rs, OwnS W D r.val r.vs
theorem OwnD.to {W W' : World} {D : Nat} {v : Value} {rs : List RD} (h : OwnD W D v rs) (hb : Below W.heap.size W W') : OwnD W' D v rs := ⟨own_to h.row hb, fun r hr => own_to (h.vals r hr) hb⟩
theorem OwnD.dirs {W : World} {D : Nat} {v : Value} {rs : List RD} (h : OwnD W D v rs) : Dirs W v (rs.map RD.dir) := by
  have hv := h.vals
  rcases h.row.2 with ⟨rfl, h0⟩ | ⟨g, cap, cur, rfl, hb, hgb, hnc, _⟩
  · have : rs = [] := List.eq_nil_of_length_eq_zero h0
    subst this
    exact ⟨none, 0, rfl, Nat.le_refl _, fun k x hk => by simp at hk⟩
  · refine ⟨_, cap, by rw [List.length_map], by rw [List.length_map]; exact hnc, fun k x hk => ?_⟩
    rw [List.getElem?_map] at hk
    obtain ⟨r, hr, rfl⟩ := Option.map_eq_some_iff.1 hk
    have hkl : k < rs.length := (List.getElem?_eq_some_iff.1 hr).1
    have hat : ∀ j, j < 2 → (encR rs)[k * 2 + j]? = ([.string r.n, r.val] : List Value)[j]? := fun j hj => by
      have e : encR rs = encR (rs.take k) ++ ([.string r.n, r.val] ++ encR (rs.drop (k + 1))) := by
        conv => lhs; rw [← List.take_append_drop k rs, List.drop_eq_getElem_cons hkl]
        unfold encR
        rw [List.flatMap_append, List.flatMap_cons]
        have : rs[k] = r := (List.getElem?_eq_some_iff.1 hr).2
        rw [this]
      have hl : (encR (rs.take k)).length = k * 2 := by rw [encR_len, List.length_take_of_le (by omega)]
      rw [e, List.getElem?_append_right (by omega), hl, Nat.add_sub_cancel_left, List.getElem?_append_left (by simpa using hj)]
    refine ⟨g, 0, r.val, rfl, (Array.getElem?_eq_some_iff.1 hgb).1, ?_, ?_, strs_own (hv r (List.mem_of_getElem? hr))⟩
    · rw [Nat.zero_add, h.row.cellAt (k * 2) (by omega)]; exact hat 0 (by omega)
    · rw [Nat.zero_add, h.row.cellAt (k * 2 + 1) (by omega)]; exact hat 1 (by omega)
theorem ownD_keep {A C : World} {row : Option Nat} {B bx D : Nat} {v : Value} {rs : List RD} (hg : A.grownBy C row) (hr : OnlyBx B bx A C row) (hD : bx < D) (h : OwnD A D v rs) : OwnD C D v rs := ⟨own_keep hg hr hD h.row, fun r hr' => own_keep hg hr hD (h.vals r hr')⟩
/-- what holds between the parts -/
structure InvP (w : World) (rep : Bool) (ps : List (List UInt8)) (W : World) : Prop where
  out : ∃ v rs, Has W (w.heap.size + 2) (.cells #[v, .bool rep] 25) ∧ OwnD W (w.heap.size + 6) v rs ∧ partsD ps = some (rs.map RD.dir) ∧ rs.length ≤ 64
  b : Below w.heap.size w W
  h0 : Has W w.heap.size (.cells #[.slice none 0 0, .bool false] 25)
  h1 : Has W (w.heap.size + 1) (.cells #[.int .i64 0] 26)
  tx : Ks.TextBox 9 (w.heap.size + 3) W
  be : Boxed W (w.heap.size + 4) 9 (.string ⟨#[59]⟩)
  bv : Boxed W (w.heap.size + 5) 3 (.int .i64 0)
/-- what holds where it ends with an error -/
structure StopP (w : World) (c : Code) (ps : List (List UInt8)) (W : World) : Prop where
  b : Below w.heap.size w W
  h0 : Has W w.heap.size (.cells #[.slice none 0 0, .bool false] 25)
  h1 : Has W (w.heap.size + 1) (.cells #[.int .i64 3] 26)
  r : c = .ret
  n : partsD ps = none
theorem invP_box (w : World) (rep : Bool) (B : Nat) (hB : w.heap.size ≤ B) : Ks.OwnBox (β := List Ks.PL) 9 B (w.heap.size + 3) (fun pre W => InvP w rep (pre.map Subtype.val) W) := by
  intro s A C row h hg hr
  obtain ⟨v, rs, h2, ho, hp, hl⟩ := h.out
  exact ⟨⟨v, rs, has_keep hg hr h2 (by omega), ownD_keep hg hr (by omega) ho, hp, hl⟩, below_keep hg hr hB (by omega) h.b, has_keep hg hr h.h0 (by omega), has_keep hg hr h.h1 (by omega), text_keep hg hr h.tx, has_keep hg hr h.be (by omega), has_keep hg hr h.bv (by omega)⟩
theorem stopP_box (w : World) (c : Code) (B : Nat) (hB : w.heap.size ≤ B) : Ks.OwnBox (β := List Ks.PL) 9 B (w.heap.size + 3) (fun pre W => StopP w c (pre.map Subtype.val) W) := by
  intro s A C row h hg hr
  exact ⟨below_keep hg hr hB (by omega) h.b, has_keep hg hr h.h0 (by omega), has_keep hg hr h.h1 (by omega), h.r, h.n⟩
theorem partsD_none {ps qs : List (List UInt8)} (h : partsD ps = none) (hp : ps <+: qs) : partsD qs = none := by
  obtain ⟨t, rfl⟩ := hp
  unfold partsD at *
  rw [List.foldl_append, h]
  induction t with
  | nil => rfl
  | cons x t ih => exact ih
theorem words_size (p : List UInt8) : ∀ x ∈ wordsL p, x.size ≤ p.length := by
  intro x hx
  unfold wordsL Lib.goFieldsP at hx
  obtain ⟨y, _, rfl⟩ := List.mem_map.1 hx
  rw [ByteArray.size_extract]
  show min _ p.toArray.size - _ ≤ _
  simp only [List.size_toArray]; omega
end Go.Proofs.YtempmmkdppelaaaGreatDoor
