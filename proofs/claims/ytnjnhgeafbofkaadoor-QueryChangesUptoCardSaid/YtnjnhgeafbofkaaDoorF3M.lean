import Derived.Test.YtnjnhgeafbofkaaDoorF1M
import Derived.RangeFuncNested
import Derived.RangeFuncBound
import Derived.RangeFuncCalls
import Derived.RangeFuncLeaves
import Derived.Shelf.Abstract
import Derived.Shelf.RegionOpen
import Derived.WalkKit
import Derived.OwnWalkIn
import Derived.TacticsInMore
import Derived.LoopNIn
import Derived.LoopIn
/-
  The contract of query's Print: it answers the plain function's text, ErrMany past 256 pairs, ErrLong past 4096 bytes of a text; nothing that was there is changed. Conditions: the list's length fits.
-/
namespace Go.Proofs.YtnjnhgeafbofkaaDoor
open Go.RowKit
/-- what a list of pairs is written as, pair by pair -/
def prL (l : List Fd) : List UInt8 := l.foldl (fun acc x => wrP x acc) []
theorem prL_snoc (l : List Fd) (k : Nat) (h : k < l.length) : prL (l.take (k + 1)) = wrP l[k] (prL (l.take k)) := by
  unfold prL
  rw [take_snoc l k h, List.foldl_append]; rfl
theorem wrP_len (x : Fd) (acc : List UInt8) (h : longF x = false) : (wrP x acc).length ≤ acc.length + 100000 := by
  simp only [longF, Bool.or_eq_false_iff, decide_eq_false_iff_not] at h
  have h1 := wrT_len x.1.data.toList 4096 (by rw [len_list]; omega)
  have h2 := wrT_len x.2.data.toList 4096 (by rw [len_list]; omega)
  have h3 : (if acc = [] then [] else acc ++ [38]).length ≤ acc.length + 1 := by
    by_cases h : acc = []
    · rw [if_pos h]; simp
    · rw [if_neg h]; simp
  unfold wrP
  simp only [List.length_append, List.length_cons, List.length_nil]
  omega
theorem prL_len (l : List Fd) (h : ∀ x ∈ l, longF x = false) (k : Nat) : (prL (l.take k)).length ≤ k * 100000 := by
  induction k with
  | zero => simp [prL]
  | succ k ih =>
    rw [Nat.succ_mul]
    by_cases hk : k < l.length
    · rw [prL_snoc l k hk]
      exact Nat.le_trans (wrP_len l[k] (prL (l.take k)) (h _ (List.getElem_mem hk))) (Nat.add_le_add_right ih _)
    · have e : l.take (k + 1) = l.take k := by rw [List.take_of_length_le (by omega), List.take_of_length_le (by omega)]
      rw [e]
      exact Nat.le_trans ih (Nat.le_add_right _ _)
theorem ret_se {a b : ByteArray} {x y : Int} (h : a = b) (h2 : x = y) : Ending.returned (.tuple #[.string a, .int .i64 x]) = Ending.returned (.tuple #[.string b, .int .i64 y]) := by rw [h, h2]
set_option maxHeartbeats 1000000 in
theorem print_many (v : Value) (l : List Fd) (hm : l.length ≤ 140737488355328) (hl : 256 < l.length) (w : World) (hv : Lst w v l) :
    Calls Tryd.prog 9 #[v] w fun e w' => e = .returned (.tuple #[.string ⟨#[]⟩, .int .i64 3]) ∧ Below w.heap.size w w' := by
  obtain ⟨p, cap, rfl, _⟩ := hv
  have g1 : decide ((256 : Int) < (l.length : Int)) = true := by simp; omega
  go_enter Tryd.func9, Tryd.ntmps9
  go_wp2
  go_ret2
  exact ⟨rfl, Below.refl _ _⟩
set_option maxHeartbeats 1000000 in
theorem print_long (v : Value) (l : List Fd) (hm : l.length ≤ 140737488355328) (hl : l.length ≤ 256) (hL : l.any longF = true) (w : World) (hv : Lst w v l) :
    Calls Tryd.prog 9 #[v] w fun e w' => e = .returned (.tuple #[.string ⟨#[]⟩, .int .i64 4]) ∧ Below w.heap.size w w' := by
  have HA := Lib.hid (anyLong v l true hL hm w hv)
  obtain ⟨p, cap, rfl, _⟩ := hv
  have g1 : decide ((256 : Int) < (l.length : Int)) = false := by simp; omega
  clear hL
  go_enter Tryd.func9, Tryd.ntmps9
  go_wp2_with fail
  refine HA.out.mono ?_
  rintro e w1 ⟨rfl, hb1⟩
  go_wp2
  go_ret2
  exact ⟨rfl, hb1⟩
set_option maxHeartbeats 2000000 in
theorem print_ok (v : Value) (l : List Fd) (T : List UInt8) (hT : prL l = T) (hl : l.length ≤ 256) (hL : l.any longF = false) (w : World) (hM : ML w) (hv : Lst w v l) :
    Calls Tryd.prog 9 #[v] w fun e w' => e = .returned (.tuple #[.string ⟨T.toArray⟩, .int .i64 0]) ∧ Below w.heap.size w w' := by
  have HA := Lib.hid (anyLong v l false hL (by omega) w hv)
  obtain ⟨p, cap, rfl, hc⟩ := hv
  have HS := Lib.hid (show ∀ x ∈ l, longF x = false from by
    intro x hx
    cases h : longF x with
    | false => rfl
    | true => rw [List.any_eq_true.2 ⟨x, hx, h⟩] at hL; cases hL)
  have HC := Lib.hid hc
  have HT := Lib.hid hT
  have HM := Lib.hid hM
  have g1 : decide ((256 : Int) < (l.length : Int)) = false := by simp; omega
  have hw0 : 0 < w.heap.size := by obtain ⟨m, hm⟩ := hM; exact World.block_lt_of_cell? _ _ hm
  clear hL hc hT hM
  go_enter Tryd.func9, Tryd.ntmps9
  go_wp2_with fail
  refine HA.out.mono ?_
  rintro e w1 ⟨rfl, hb1⟩
  have hs1 := hb1.size
  have HB1 := Lib.hid hb1
  have HIs := Lib.hid (show IsB 49 w1.heap.size w1.heap.size [] (w1.alloc (.cells #[.pointer none, .slice none 0 0] 49)) from
    .inl ⟨Nat.le_refl _, .slice none 0 0, heap_alloc_new w1 _, World.ownsRowF_of (World.ownsRow_nil _ _ _ _), by simp [Value.ownBlock]⟩)
  have HBE := Lib.hid (bnew w1 (.cells #[.pointer none, .slice none 0 0] 49))
  clear hb1 HA
  go_wp2_with fail
  go_loopw [18] (fun i wr => ∃ k : Nat, k ≤ l.length ∧ i = .int .i64 k ∧ Hid (IsB 49 w1.heap.size w1.heap.size (prL (l.take k)) wr) ∧ Hid (Below w1.heap.size w1 wr)) (fun i _ => l.length - (intOf i).toNat)
  case atStart => exact ⟨0, by omega, rfl, HIs, HBE⟩
  case round =>
    obtain ⟨k, hk, rfl, HIB, HBW⟩ := hrel
    have hsr := HBW.out.size
    by_cases hlt : k < l.length
    · obtain ⟨g, o, rfl, hg, hx, hy⟩ := HC.out k l[k] (getF hlt)
      have hbw : Below w.heap.size w wr := HB1.out.trans (HBW.out.mono (by omega))
      have hx2 := (hbw.cell (p := ⟨g, o + k * 2, none⟩) hg).trans hx
      have hy2 := (hbw.cell (p := ⟨g, o + k * 2 + 1, none⟩) hg).trans hy
      have i1 : (k : Int) < (l.length : Int) := by omega
      have HP := Lib.hid (prL_snoc l k hlt)
      have HK := Lib.hid (prL_len l HS.out k)
      have HS1 := Lib.hid (HS.out l[k] (List.getElem_mem hlt))
      have HMr := Lib.hid (HM.out.to hbw)
      clear hx hy hbw
      generalize l[k] = f at *
      obtain ⟨x, y⟩ := f
      have HXY := Lib.hid (show x.size ≤ 4096 ∧ y.size ≤ 4096 from by
        have := HS1.out
        simp only [longF, Bool.or_eq_false_iff, decide_eq_false_iff_not] at this
        omega)
      go_wp2_with fail
      refine (pair_is w1.heap.size w1.heap.size (prL (l.take k)) x y _ rfl HXY.out.1 HXY.out.2 _ (HIB.out.later (bnew _ _)) (by have := HK.out; omega) (by simp; omega) (HMr.out.to (bnew _ _)) (by omega)).mono ?_
      rintro e w3 ⟨rfl, q1, q2, _⟩
      have H1 := Lib.hid q1
      have H2 := Lib.hid ((HBW.out.alloc (by omega) (.cells #[.string x, .string y] 38)).trans q2)
      clear q1 q2
      go_wp2
      go_roundw
      case rel => exact ⟨k + 1, by omega, by go_num, Lib.hid (by rw [HP.out]; exact H1.out), H2⟩
      case measure => simp [intOf]; omega
    · have HD := Lib.hid (show prL (l.take k) = T by rw [List.take_of_length_le (by omega)]; exact HT.out)
      have HIB2 := Lib.hid (show IsB 49 w1.heap.size w1.heap.size T wr by rw [← HD.out]; exact HIB.out)
      go_wp2_with fail
      refine (bString 49 w1.heap.size w1.heap.size T wr HIB2.out (by omega)).mono ?_
      rintro e w3 ⟨rfl, q2, _⟩
      have H2 := Lib.hid (HBW.out.trans q2)
      clear q2
      go_wp2
      go_ret2
      exact ⟨rfl, HB1.out.trans (H2.out.mono hs1)⟩
theorem print_any (v : Value) (l : List Fd) (hm : l.length ≤ 140737488355328) (w : World) (hM : ML w) (hv : Lst w v l) (T : List UInt8) (r : Int)
    (h : (if 256 < l.length then ([], 3) else if l.any longF then ([], 4) else (prL l, 0)) = (T, r)) :
    Calls Tryd.prog 9 #[v] w fun e w' => e = .returned (.tuple #[.string ⟨T.toArray⟩, .int .i64 r]) ∧ Below w.heap.size w w' := by
  by_cases h1 : 256 < l.length
  · rw [if_pos h1] at h; injection h with ha hb; subst ha; subst hb
    exact print_many v l hm h1 w hv
  · rw [if_neg h1] at h
    cases h2 : l.any longF with
    | true => rw [if_pos h2] at h; injection h with ha hb; subst ha; subst hb; exact print_long v l hm (by omega) h2 w hv
    | false => rw [if_neg (by rw [h2]; simp)] at h; injection h with ha hb; subst hb; exact print_ok v l T ha (by omega) h2 w hM hv
end Go.Proofs.YtnjnhgeafbofkaaDoor
/-
  A range over a function whose iterator keeps its state in a cell of its own (a captured variable that it overwrites) and reads other captured variables: the contract and the law. The iterator's cell is block bx; the caller's invariant abides stores to it; the blocks ks (bx among them) the body leaves alone.
-/
namespace Go.Proofs.YtnjnhgeafbofkaaDoor.Ks
open Go.RowKit
variable {F : Fence} {n : Nat} {P : Program}
/-- block bx is a box of type t with a text -/
def TextBox (t : TypeId) (bx : Nat) (A : World) : Prop := ∃ x, A.heap[bx]? = some (.cells #[.string x] t (0, 0))
def Abid {β : Type} (t : TypeId) (bx : Nat) (J : β → World → Prop) : Prop :=
  ∀ s A C row, J s A → A.grownBy C row → (∀ r, row = some r → r = bx ∧ TextBox t bx A ∧ TextBox t bx C) → J s C
def OwnBox {β : Type} (t : TypeId) (B bx : Nat) (I : β → World → Prop) : Prop :=
  ∀ s A C row, I s A → A.grownBy C row → (∀ r, row = some r → (B ≤ r ∧ ∃ o : Obj, A.heap[r]? = some o ∧ o.isCells = false) ∨ (r = bx ∧ TextBox t bx A ∧ TextBox t bx C)) → I s C
def SeqBox {α : Type} (F : Fence) (n : Nat) (P : Program) (g : Nat) (lb : Array Value) (encs : α → Array Value) (t : TypeId) (bx : Nat) (ks : List Nat) (S Sp : List α → Prop) (N : Nat) (w : World) : Prop :=
  ∀ (l : Nat) (J Jx : List α → World → Prop) (W : World), (∀ k ∈ ks, W.heap[k]? = w.heap[k]?) → Abid t bx J → Abid t bx Jx →
    (∀ pre x W1, J pre W1 → pre.length < N → YieldAt F (n - 1) P l (encs x) W1 fun e W' =>
      (e = .returned (.bool true) ∧ J (pre ++ [x]) W' ∧ ∀ k ∈ ks, W'.heap[k]? = W1.heap[k]?) ∨ (e = .returned (.bool false) ∧ Jx (pre ++ [x]) W')) →
    J [] W →
    CallsIn F n P g (#[.func (.yield l) #[] #[]] ++ lb) W fun e W' => (∃ v, e = .returned v) ∧ ((∃ xs, S xs ∧ J xs W') ∨ (∃ pre, Sp pre ∧ Jx pre W'))
def postBox {α : Type} (ks : List Nat) (I : List α → World → Prop) (Ix : Code → List α → World → Prop) (xs : List α) (W : World) : Exit → Act → World → Prop
  | .normal, _, W' => KeepsOthers W W' ∧ (∀ k ∈ ks, W'.heap[k]? = W.heap[k]?) ∧ I xs W'
  | .ret, _, W' => KeepsOthers W W' ∧ Ix .ret xs W'
  | .exit id, _, W' => KeepsOthers W W' ∧ Ix (.exit id) xs W'
  | .goto t, _, W' => KeepsOthers W W' ∧ Ix (.goto t) xs W'
  | .panic _, _, _ => False
  | .outgrown, _, _ => False
theorem OwnBox.putObj {β : Type} {t : TypeId} {B bx : Nat} {I : β → World → Prop} (h : OwnBox t B bx I) {s : β} {W : World} {l : Nat} {o : Obj} (o' : Obj) (hs : I s W) (hB : B ≤ l) (hl : W.heap[l]? = some o) (ho : o.isCells = false) : I s (W.putObj l o') :=
  h s W _ (some l) hs (grownBy_putObj' W l o') (fun r e => by cases e; exact .inl ⟨hB, o, hl, ho⟩)
theorem OwnBox.alloc {β : Type} {t : TypeId} {B bx : Nat} {I : β → World → Prop} (h : OwnBox t B bx I) {s : β} {W : World} (o : Obj) (hs : I s W) : I s (W.alloc o) :=
  h s W _ none hs (World.grownBy_alloc W o none) (fun r e => by cases e)
theorem wpIn_rangeFunc_box {α : Type} {g : Operand} {ps : Array Tmp} {assign body : Code} {Q : Exit → Act → World → Prop} {a : Act} {w : World}
    (hro : F.round = none) (h1 : 1 ≤ n) {gf : Nat} {lb : Array Value} (hg : a.eval g = .func (.func gf) #[] lb) (hFg : F.fn gf) (eg : ∀ args w, (callFunc gf args).run P w = .ok (.enter gf args) w)
    {encs : α → Array Value} {t : TypeId} {bx : Nat} {ks : List Nat} {S Sp : List α → Prop} {N : Nat} (hbx : ∀ k ∈ ks, k < w.heap.size) (hbk : bx ∈ ks) (hseq : SeqBox F (n - 1) P gf lb encs t bx ks S Sp N w) (hps : ∀ x, (encs x).size = ps.size)
    (I : List α → World → Prop) (Ix : Code → List α → World → Prop) (hI : OwnBox t w.heap.size bx I) (hIx : ∀ c, OwnBox t w.heap.size bx (Ix c)) (h0 : I [] w) (a₁ : α → Act)
    (hassign : ∀ (l : Nat) (x : α) (W : World) (K : Act → World → Prop), K (a₁ x) W →
      assign.wpIn (F.inRound l) (n - 1 - 1) P (Exit.then K (fun _ _ _ => False)) { tmps := (ps.zip (encs x)).foldl (fun t (p, v) => t.setIfInBounds p v) a.tmps, defers := [] } W)
    (hbody : ∀ (l : Nat) (pre : List α) (x : α) (W : World), I pre W → pre.length < N → body.wpIn (F.inRound l) (n - 1 - 1) P (postBox ks I Ix (pre ++ [x]) W) (a₁ x) W)
    (hdone : ∀ (D : Nat) (xs : List α) (W : World), w.heap.size ≤ D → S xs → I xs W → W.heap[D]? = some (.deferred (some [])) → Q .normal { a with defers := { target := .collected D, args := #[] } :: a.defers } W)
    (hstop : ∀ (D : Nat) (c : Code) (pre : List α) (W : World), w.heap.size ≤ D → Sp pre → Ix c pre W → W.heap[D]? = some (.deferred (some [])) → c.wpIn F n P Q { a with defers := { target := .collected D, args := #[] } :: a.defers } W) :
    (Code.rangeFunc g ps assign body).wpIn F n P Q a w := by
  refine wpIn_rangeFunc ?_
  intro fn hfn
  rw [hro]
  obtain ⟨rec, hrec⟩ : ∃ rec : LoopState → Option Code → Loop, rec = fun st pe => { state := st, pending := pe, fn, tmps := a.tmps, params := ps, assign, body, defers := w.heap.size } := ⟨_, rfl⟩
  obtain ⟨W1, hW1⟩ : ∃ W1, (w.alloc (.deferred (some []))).alloc (.loop (rec .ready none)) = W1 := ⟨_, rfl⟩
  have hL1 : W1.heap[w.heap.size + 1]? = some (.loop (rec .ready none)) := by
    rw [← hW1]; have := World.alloc_heap_new (w.alloc (.deferred (some []))) (.loop (rec .ready none)); rwa [World.size_alloc] at this
  have hK1 : W1.heap[w.heap.size]? = some (.deferred (some [])) := by
    rw [← hW1]; exact (Below.heap_alloc _ _ _ (by simp)).trans (World.alloc_heap_new w _)
  have hI1 : I [] W1 := by rw [← hW1]; exact hI.alloc _ (hI.alloc _ h0)
  have hb0 := hbx bx hbk
  have hb1 : ∀ k ∈ ks, W1.heap[k]? = w.heap[k]? := fun k hk => by
    have hk' := hbx k hk
    rw [← hW1]; exact (Below.heap_alloc _ _ _ (by simp; omega)).trans (Below.heap_alloc _ _ _ hk')
  refine ⟨w.heap.size + 1, [{ target := .collected w.heap.size, args := #[] }], W1, { target := .fn (.func gf) lb, args := #[.func (.yield (w.heap.size + 1)) #[] #[]] }, W1, gf,
    #[.func (.yield (w.heap.size + 1)) #[] #[]] ++ lb, W1, ?_, ?_, ?_, ?_, fun _ => h1, ?_⟩
  · rw [← hW1, hrec]; exact run_enterLoop_outer _ _ _ _ _
  · simp only [resolve, hg]
    simp [go_sem]
  · intro f' hf'; simp [Target.leads] at hf'; subst hf'; exact hFg
  · simp [invoke, go_sem, eg]
  · have hne : ∀ {A C : World} {row : Option Nat} {k : Nat} {o : Obj}, A.grownBy C row → (∀ r, row = some r → r = bx ∧ TextBox t bx A ∧ TextBox t bx C) → w.heap.size ≤ k → A.heap[k]? = some o → C.heap[k]? = some o := by
      intro A C row k o hg hr hk ho
      refine (hg.block k (Array.getElem?_eq_some_iff.1 ho).1 ?_).trans ho
      intro e
      have := (hr k e.symm).1
      omega
    refine (hseq (w.heap.size + 1)
      (fun pre W => I pre W ∧ W.heap[w.heap.size + 1]? = some (.loop (rec .ready none)) ∧ W.heap[w.heap.size]? = some (.deferred (some [])))
      (fun pre W => ∃ c, Ix c pre W ∧ W.heap[w.heap.size + 1]? = some (.loop (rec .done (some c))) ∧ W.heap[w.heap.size]? = some (.deferred (some [])))
      W1 hb1
      (fun s A C row hs hg' hr => ⟨hI s A C row hs.1 hg' (fun r e => .inr (hr r e)), hne hg' hr (by omega) hs.2.1, hne hg' hr (Nat.le_refl _) hs.2.2⟩)
      (fun s A C row hs hg' hr => by
        obtain ⟨c, hc, hl, hk⟩ := hs
        exact ⟨c, hIx c s A C row hc hg' (fun r e => .inr (hr r e)), hne hg' hr (by omega) hl, hne hg' hr (Nat.le_refl _) hk⟩)
      ?_ ⟨hI1, hL1, hK1⟩).mono ?_
    · rintro pre x W ⟨hi, hl, hk⟩ hlen
      have hlt : w.heap.size + 1 < W.heap.size := (Array.getElem?_eq_some_iff.1 hl).1
      have hy := run_yield (P := P) (args := encs x) hl (by rw [hrec]; exact hps x)
      rw [hrec] at hy
      refine ⟨fn, _, assign, body, hy, roundIn_of_wpIn hfn (hassign _ x W _ ⟨_, run_beginRound hl (by rw [hrec]), ?_⟩)⟩
      have hl2 : (W.putObj (w.heap.size + 1) (.loop { rec .ready none with state := .busy })).heap[w.heap.size + 1]? = some (.loop { rec .ready none with state := .busy }) := World.putObj_heap_same hlt
      have hk2 : (W.putObj (w.heap.size + 1) (.loop { rec .ready none with state := .busy })).heap[w.heap.size]? = some (.deferred (some [])) := (World.putObj_heap_other (by omega)).trans hk
      have hw2 : ∀ k ∈ ks, (W.putObj (w.heap.size + 1) (.loop { rec .ready none with state := .busy })).heap[k]? = W.heap[k]? := fun k hk => World.putObj_heap_other (by have := hbx k hk; omega)
      refine wpIn_mono (hbody _ pre x _ (hI.putObj _ hi (by omega) hl rfl) hlen) ?_
      have fin : ∀ (jump : Option Code) (W3 : World), KeepsOthers (W.putObj (w.heap.size + 1) (.loop { rec .ready none with state := .busy })) W3 →
          (Instr.endRound (w.heap.size + 1) jump).run P W3 = .ok (.bool jump.isNone) (W3.putObj (w.heap.size + 1) (.loop (rec (if jump.isNone then .ready else .done) jump))) ∧
          W3.heap[w.heap.size + 1]? = some (.loop { rec .ready none with state := .busy }) ∧
          (W3.putObj (w.heap.size + 1) (.loop (rec (if jump.isNone then .ready else .done) jump))).heap[w.heap.size + 1]? = some (.loop (rec (if jump.isNone then .ready else .done) jump)) ∧
          (W3.putObj (w.heap.size + 1) (.loop (rec (if jump.isNone then .ready else .done) jump))).heap[w.heap.size]? = some (.deferred (some [])) := fun jump W3 hk3 => by
        have hl3 := hk3.same _ _ hl2 rfl
        have := run_endRound (P := P) jump hl3
        rw [hrec] at this ⊢
        exact ⟨this, by rw [hrec] at hl3; exact hl3, World.putObj_heap_same (Array.getElem?_eq_some_iff.1 hl3).1, (World.putObj_heap_other (by omega)).trans (hk3.same _ _ hk2 rfl)⟩
      rintro e a3 W3 hp
      cases e with
      | normal =>
        obtain ⟨hk3, hkp3, hi3⟩ := hp
        obtain ⟨hr, hl3, hl4, hk4⟩ := fin none W3 hk3
        exact ⟨_, _, hr, .inl ⟨rfl, ⟨hI.putObj _ hi3 (by omega) hl3 rfl, hl4, hk4⟩, fun k hk => (World.putObj_heap_other (by have := hbx k hk; omega)).trans ((hkp3 k hk).trans (hw2 k hk))⟩⟩
      | ret =>
        obtain ⟨hk3, hi3⟩ := hp
        obtain ⟨hr, hl3, hl4, hk4⟩ := fin (some .ret) W3 hk3
        exact ⟨_, _, hr, .inr ⟨rfl, .ret, (hIx _).putObj _ hi3 (by omega) hl3 rfl, hl4, hk4⟩⟩
      | exit id =>
        obtain ⟨hk3, hi3⟩ := hp
        obtain ⟨hr, hl3, hl4, hk4⟩ := fin (some (.exit id)) W3 hk3
        exact ⟨_, _, hr, .inr ⟨rfl, .exit id, (hIx _).putObj _ hi3 (by omega) hl3 rfl, hl4, hk4⟩⟩
      | goto t =>
        obtain ⟨hk3, hi3⟩ := hp
        obtain ⟨hr, hl3, hl4, hk4⟩ := fin (some (.goto t)) W3 hk3
        exact ⟨_, _, hr, .inr ⟨rfl, .goto t, (hIx _).putObj _ hi3 (by omega) hl3 rfl, hl4, hk4⟩⟩
      | panic ch => exact hp.elim
      | outgrown => exact hp.elim
    · rintro e W2 ⟨⟨v, rfl⟩, (⟨xs, hS, hi, hl, hk⟩ | ⟨pre, hSp, c, hi, hl, hk⟩)⟩
      · exact ⟨none, _, by have := run_endLoop (P := P) hl (by rw [hrec]; simp); rw [hrec] at this; exact this, hdone _ xs _ (Nat.le_refl _) hS (hI.putObj _ hi (by omega) hl rfl) ((World.putObj_heap_other (by omega)).trans hk)⟩
      · exact ⟨some c, _, by have := run_endLoop (P := P) hl (by rw [hrec]; simp); rw [hrec] at this; exact this, hstop _ c pre _ (Nat.le_refl _) hSp ((hIx c).putObj _ hi (by omega) hl rfl) ((World.putObj_heap_other (by omega)).trans hk)⟩
end Go.Proofs.YtnjnhgeafbofkaaDoor.Ks
