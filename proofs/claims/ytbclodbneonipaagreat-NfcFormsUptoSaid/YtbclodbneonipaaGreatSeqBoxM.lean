import Derived.RangeFuncNested
import Derived.RangeFuncBound
import Derived.RangeFuncCalls
import Derived.RangeFuncLeaves
import Derived.Shelf.Abstract
import Derived.Shelf.RegionOpen
import Derived.WalkKit
import Derived.OwnWalkIn
import Derived.TacticsInMore
import Derived.LoopNIn
import Derived.LoopIn
import Derived.Test.YtbclodbneonipaaGreatUtfDM
import Derived.Maps.AppendAt
/-
  A range over a function whose iterator keeps its state in a cell of its own (a captured variable that it overwrites): the contract and the law. The iterator's cell is block bx; the caller's invariant abides stores to it.
-/
namespace Go.Proofs.YtbclodbneonipaaGreat
open Go.RowKit
variable {F : Fence} {n : Nat} {P : Program}
/-- block bx is a box of type t with a text -/
def TextBox (t : TypeId) (bx : Nat) (A : World) : Prop := ∃ x, A.heap[bx]? = some (.cells #[.string x] t (0, 0))
def Abid {β : Type} (t : TypeId) (bx : Nat) (J : β → World → Prop) : Prop :=
  ∀ s A C row, J s A → A.grownBy C row → (∀ r, row = some r → r = bx ∧ TextBox t bx A ∧ TextBox t bx C) → J s C
def OwnBox {β : Type} (t : TypeId) (B bx : Nat) (I : β → World → Prop) : Prop :=
  ∀ s A C row, I s A → A.grownBy C row → (∀ r, row = some r → (B ≤ r ∧ ∃ o : Obj, A.heap[r]? = some o ∧ o.isCells = false) ∨ (r = bx ∧ TextBox t bx A ∧ TextBox t bx C)) → I s C
def SeqBox {α : Type} (F : Fence) (n : Nat) (P : Program) (g : Nat) (lb : Array Value) (encs : α → Array Value) (t : TypeId) (bx : Nat) (S Sp : List α → Prop) (N : Nat) (w : World) : Prop :=
  ∀ (l : Nat) (J Jx : List α → World → Prop) (W : World), W.heap[bx]? = w.heap[bx]? → Abid t bx J → Abid t bx Jx →
    (∀ pre x W1, J pre W1 → pre.length < N → YieldAt F (n - 1) P l (encs x) W1 fun e W' =>
      (e = .returned (.bool true) ∧ J (pre ++ [x]) W' ∧ W'.heap[bx]? = W1.heap[bx]?) ∨ (e = .returned (.bool false) ∧ Jx (pre ++ [x]) W')) →
    J [] W →
    CallsIn F n P g (#[.func (.yield l) #[] #[]] ++ lb) W fun e W' => (∃ v, e = .returned v) ∧ ((∃ xs, S xs ∧ J xs W') ∨ (∃ pre, Sp pre ∧ Jx pre W'))
def postBox {α : Type} (bx : Nat) (I : List α → World → Prop) (Ix : Code → List α → World → Prop) (xs : List α) (W : World) : Exit → Act → World → Prop
  | .normal, _, W' => KeepsOthers W W' ∧ W'.heap[bx]? = W.heap[bx]? ∧ I xs W'
  | .ret, _, W' => KeepsOthers W W' ∧ Ix .ret xs W'
  | .exit id, _, W' => KeepsOthers W W' ∧ Ix (.exit id) xs W'
  | .goto t, _, W' => KeepsOthers W W' ∧ Ix (.goto t) xs W'
  | .panic _, _, _ => False
  | .outgrown, _, _ => False
theorem OwnBox.putObj {β : Type} {t : TypeId} {B bx : Nat} {I : β → World → Prop} (h : OwnBox t B bx I) {s : β} {W : World} {l : Nat} {o : Obj} (o' : Obj) (hs : I s W) (hB : B ≤ l) (hl : W.heap[l]? = some o) (ho : o.isCells = false) : I s (W.putObj l o') :=
  h s W _ (some l) hs (grownBy_putObj' W l o') (fun r e => by cases e; exact .inl ⟨hB, o, hl, ho⟩)
theorem OwnBox.alloc {β : Type} {t : TypeId} {B bx : Nat} {I : β → World → Prop} (h : OwnBox t B bx I) {s : β} {W : World} (o : Obj) (hs : I s W) : I s (W.alloc o) :=
  h s W _ none hs (World.grownBy_alloc W o none) (fun r e => by cases e)
theorem wpIn_rangeFunc_box {α : Type} {g : Operand} {ps : Array Tmp} {assign body : Code} {Q : Exit → Act → World → Prop} {a : Act} {w : World}
    (hro : F.round = none) (h1 : 1 ≤ n) {gf : Nat} {lb : Array Value} (hg : a.eval g = .func (.func gf) #[] lb) (hFg : F.fn gf) (eg : ∀ args w, (callFunc gf args).run P w = .ok (.enter gf args) w)
    {encs : α → Array Value} {t : TypeId} {bx : Nat} {S Sp : List α → Prop} {N : Nat} (hbx : bx < w.heap.size) (hseq : SeqBox F (n - 1) P gf lb encs t bx S Sp N w) (hps : ∀ x, (encs x).size = ps.size)
    (I : List α → World → Prop) (Ix : Code → List α → World → Prop) (hI : OwnBox t w.heap.size bx I) (hIx : ∀ c, OwnBox t w.heap.size bx (Ix c)) (h0 : I [] w) (a₁ : α → Act)
    (hassign : ∀ (l : Nat) (x : α) (W : World) (K : Act → World → Prop), K (a₁ x) W →
      assign.wpIn (F.inRound l) (n - 1 - 1) P (Exit.then K (fun _ _ _ => False)) { tmps := (ps.zip (encs x)).foldl (fun t (p, v) => t.setIfInBounds p v) a.tmps, defers := [] } W)
    (hbody : ∀ (l : Nat) (pre : List α) (x : α) (W : World), I pre W → pre.length < N → body.wpIn (F.inRound l) (n - 1 - 1) P (postBox bx I Ix (pre ++ [x]) W) (a₁ x) W)
    (hdone : ∀ (D : Nat) (xs : List α) (W : World), w.heap.size ≤ D → S xs → I xs W → W.heap[D]? = some (.deferred (some [])) → Q .normal { a with defers := { target := .collected D, args := #[] } :: a.defers } W)
    (hstop : ∀ (D : Nat) (c : Code) (pre : List α) (W : World), w.heap.size ≤ D → Sp pre → Ix c pre W → W.heap[D]? = some (.deferred (some [])) → c.wpIn F n P Q { a with defers := { target := .collected D, args := #[] } :: a.defers } W) :
    (Code.rangeFunc g ps assign body).wpIn F n P Q a w := by
  refine wpIn_rangeFunc ?_
  intro fn hfn
  rw [hro]
  obtain ⟨rec, hrec⟩ : ∃ rec : LoopState → Option Code → Loop, rec = fun st pe => { state := st, pending := pe, fn, tmps := a.tmps, params := ps, assign, body, defers := w.heap.size } := ⟨_, rfl⟩
  obtain ⟨W1, hW1⟩ : ∃ W1, (w.alloc (.deferred (some []))).alloc (.loop (rec .ready none)) = W1 := ⟨_, rfl⟩
  have hL1 : W1.heap[w.heap.size + 1]? = some (.loop (rec .ready none)) := by
    rw [← hW1]; have := World.alloc_heap_new (w.alloc (.deferred (some []))) (.loop (rec .ready none)); rwa [World.size_alloc] at this
  have hK1 : W1.heap[w.heap.size]? = some (.deferred (some [])) := by
    rw [← hW1]; exact (Below.heap_alloc _ _ _ (by simp)).trans (World.alloc_heap_new w _)
  have hI1 : I [] W1 := by rw [← hW1]; exact hI.alloc _ (hI.alloc _ h0)
  have hb1 : W1.heap[bx]? = w.heap[bx]? := by
    rw [← hW1]; exact (Below.heap_alloc _ _ _ (by simp; omega)).trans (Below.heap_alloc _ _ _ hbx)
  refine ⟨w.heap.size + 1, [{ target := .collected w.heap.size, args := #[] }], W1, { target := .fn (.func gf) lb, args := #[.func (.yield (w.heap.size + 1)) #[] #[]] }, W1, gf,
    #[.func (.yield (w.heap.size + 1)) #[] #[]] ++ lb, W1, ?_, ?_, ?_, ?_, fun _ => h1, ?_⟩
  · rw [← hW1, hrec]; exact run_enterLoop_outer _ _ _ _ _
  · simp only [resolve, hg]
    simp [go_sem]
  · intro f' hf'; simp [Target.leads] at hf'; subst hf'; exact hFg
  · simp [invoke, go_sem, eg]
  · have hne : ∀ {A C : World} {row : Option Nat} {k : Nat} {o : Obj}, A.grownBy C row → (∀ r, row = some r → r = bx ∧ TextBox t bx A ∧ TextBox t bx C) → w.heap.size ≤ k → A.heap[k]? = some o → C.heap[k]? = some o := by
      intro A C row k o hg hr hk ho
      refine (hg.block k (Array.getElem?_eq_some_iff.1 ho).1 ?_).trans ho
      intro e
      have := (hr k e.symm).1
      omega
    refine (hseq (w.heap.size + 1)
      (fun pre W => I pre W ∧ W.heap[w.heap.size + 1]? = some (.loop (rec .ready none)) ∧ W.heap[w.heap.size]? = some (.deferred (some [])))
      (fun pre W => ∃ c, Ix c pre W ∧ W.heap[w.heap.size + 1]? = some (.loop (rec .done (some c))) ∧ W.heap[w.heap.size]? = some (.deferred (some [])))
      W1 hb1
      (fun s A C row hs hg' hr => ⟨hI s A C row hs.1 hg' (fun r e => .inr (hr r e)), hne hg' hr (by omega) hs.2.1, hne hg' hr (Nat.le_refl _) hs.2.2⟩)
      (fun s A C row hs hg' hr => by
        obtain ⟨c, hc, hl, hk⟩ := hs
        exact ⟨c, hIx c s A C row hc hg' (fun r e => .inr (hr r e)), hne hg' hr (by omega) hl, hne hg' hr (Nat.le_refl _) hk⟩)
      ?_ ⟨hI1, hL1, hK1⟩).mono ?_
    · rintro pre x W ⟨hi, hl, hk⟩ hlen
      have hlt : w.heap.size + 1 < W.heap.size := (Array.getElem?_eq_some_iff.1 hl).1
      have hy := run_yield (P := P) (args := encs x) hl (by rw [hrec]; exact hps x)
      rw [hrec] at hy
      refine ⟨fn, _, assign, body, hy, roundIn_of_wpIn hfn (hassign _ x W _ ⟨_, run_beginRound hl (by rw [hrec]), ?_⟩)⟩
      have hl2 : (W.putObj (w.heap.size + 1) (.loop { rec .ready none with state := .busy })).heap[w.heap.size + 1]? = some (.loop { rec .ready none with state := .busy }) := World.putObj_heap_same hlt
      have hk2 : (W.putObj (w.heap.size + 1) (.loop { rec .ready none with state := .busy })).heap[w.heap.size]? = some (.deferred (some [])) := (World.putObj_heap_other (by omega)).trans hk
      have hw2 : (W.putObj (w.heap.size + 1) (.loop { rec .ready none with state := .busy })).heap[bx]? = W.heap[bx]? := World.putObj_heap_other (by omega)
      refine wpIn_mono (hbody _ pre x _ (hI.putObj _ hi (by omega) hl rfl) hlen) ?_
      have fin : ∀ (jump : Option Code) (W3 : World), KeepsOthers (W.putObj (w.heap.size + 1) (.loop { rec .ready none with state := .busy })) W3 →
          (Instr.endRound (w.heap.size + 1) jump).run P W3 = .ok (.bool jump.isNone) (W3.putObj (w.heap.size + 1) (.loop (rec (if jump.isNone then .ready else .done) jump))) ∧
          W3.heap[w.heap.size + 1]? = some (.loop { rec .ready none with state := .busy }) ∧
          (W3.putObj (w.heap.size + 1) (.loop (rec (if jump.isNone then .ready else .done) jump))).heap[w.heap.size + 1]? = some (.loop (rec (if jump.isNone then .ready else .done) jump)) ∧
          (W3.putObj (w.heap.size + 1) (.loop (rec (if jump.isNone then .ready else .done) jump))).heap[w.heap.size]? = some (.deferred (some [])) := fun jump W3 hk3 => by
        have hl3 := hk3.same _ _ hl2 rfl
        have := run_endRound (P := P) jump hl3
        rw [hrec] at this ⊢
        exact ⟨this, by rw [hrec] at hl3; exact hl3, World.putObj_heap_same (Array.getElem?_eq_some_iff.1 hl3).1, (World.putObj_heap_other (by omega)).trans (hk3.same _ _ hk2 rfl)⟩
      rintro e a3 W3 hp
      cases e with
      | normal =>
        obtain ⟨hk3, hkp3, hi3⟩ := hp
        obtain ⟨hr, hl3, hl4, hk4⟩ := fin none W3 hk3
        exact ⟨_, _, hr, .inl ⟨rfl, ⟨hI.putObj _ hi3 (by omega) hl3 rfl, hl4, hk4⟩, (World.putObj_heap_other (by omega)).trans (hkp3.trans hw2)⟩⟩
      | ret =>
        obtain ⟨hk3, hi3⟩ := hp
        obtain ⟨hr, hl3, hl4, hk4⟩ := fin (some .ret) W3 hk3
        exact ⟨_, _, hr, .inr ⟨rfl, .ret, (hIx _).putObj _ hi3 (by omega) hl3 rfl, hl4, hk4⟩⟩
      | exit id =>
        obtain ⟨hk3, hi3⟩ := hp
        obtain ⟨hr, hl3, hl4, hk4⟩ := fin (some (.exit id)) W3 hk3
        exact ⟨_, _, hr, .inr ⟨rfl, .exit id, (hIx _).putObj _ hi3 (by omega) hl3 rfl, hl4, hk4⟩⟩
      | goto t =>
        obtain ⟨hk3, hi3⟩ := hp
        obtain ⟨hr, hl3, hl4, hk4⟩ := fin (some (.goto t)) W3 hk3
        exact ⟨_, _, hr, .inr ⟨rfl, .goto t, (hIx _).putObj _ hi3 (by omega) hl3 rfl, hl4, hk4⟩⟩
      | panic ch => exact hp.elim
      | outgrown => exact hp.elim
    · rintro e W2 ⟨⟨v, rfl⟩, (⟨xs, hS, hi, hl, hk⟩ | ⟨pre, hSp, c, hi, hl, hk⟩)⟩
      · exact ⟨none, _, by have := run_endLoop (P := P) hl (by rw [hrec]; simp); rw [hrec] at this; exact this, hdone _ xs _ (Nat.le_refl _) hS (hI.putObj _ hi (by omega) hl rfl) ((World.putObj_heap_other (by omega)).trans hk)⟩
      · exact ⟨some c, _, by have := run_endLoop (P := P) hl (by rw [hrec]; simp); rw [hrec] at this; exact this, hstop _ c pre _ (Nat.le_refl _) hSp ((hIx c).putObj _ hi (by omega) hl rfl) ((World.putObj_heap_other (by omega)).trans hk)⟩
end Go.Proofs.YtbclodbneonipaaGreat
namespace Go.Proofs.YtbclodbneonipaaGreat
open Go.RowKit Go.Shelf
attribute [local go_sem] Oper.semAt_some
def encP (x : Nat × List UInt8) : Array Value := #[.int .i32 x.1, .string ⟨x.2.toArray⟩]
def boxLen (W : World) (bx : Nat) : Nat := match W.cell? ⟨bx, 0, none⟩ with | some (.string t) => t.size | _ => 0
theorem len_list (t : ByteArray) : t.data.toList.length = t.size := by rw [Array.length_toList]; rfl
theorem piece_of (t : ByteArray) (h0 : 0 < t.size) : ∃ r k : Nat, U.fst1 t.data.toList = (r, k) ∧ 1 ≤ k ∧ k ≤ t.size ∧ U.pieces t.data.toList = (r, (t.extract 0 k).data.toList) :: U.pieces (t.extract k t.size).data.toList := by
  have e := list_cons t h0
  have hw := U.fst1_w t[0] (t.data.toList.drop 1)
  have hp := U.pieces_cons t[0] (t.data.toList.drop 1)
  rw [← e] at hw hp
  refine ⟨(U.fst1 t.data.toList).1, (U.fst1 t.data.toList).2, rfl, hw.1, ?_, ?_⟩
  · have := hw.2.2; rw [List.length_drop, len_list] at this; omega
  · rw [extract_list, hp]
    congr 2
    simp only [ByteArray.data_extract, Array.toList_extract, List.extract_eq_take_drop]
    simp
theorem first_is (t : ByteArray) (ht : t.size ≤ maxLen) (h0 : 0 < t.size) (r k : Nat) (h : U.fst1 t.data.toList = (r, k)) (w : World) :
    Calls Tryz.prog 122 #[.string t] w fun e w' => e = .returned (.tuple #[.int .i32 r, .int .i64 k]) ∧ ∃ m, w' = w.drewN m :=
  (first_any t ht h0 w).mono fun _ _ ⟨h1, h2⟩ => ⟨by rw [h1, h], h2⟩
theorem grownBy_drewN (w : World) (m : Nat) : w.grownBy (w.drewN m) none := ⟨rfl, rfl, rfl, Nat.le_refl _, fun _ _ _ => rfl⟩
set_option maxHeartbeats 2000000 in
theorem iter_box (n : Nat) (hn : 2 ≤ n) (bx : Nat) (u : ByteArray) (hu : u.size ≤ maxLen) (w : World) (hb : w.heap[bx]? = some (.cells #[.string u] 9 (0, 0))) :
    SeqBox Fence.wide n Tryz.prog 121 #[.pointer (some ⟨bx, 0, none⟩)] encP 9 bx (fun xs => xs = U.pieces u.data.toList) (fun xs => xs <+: U.pieces u.data.toList) (U.pieces u.data.toList).length w := by
  intro l J Jx W hW hJ hJx hY h0
  refine callsIn_of_wp Tryz.func121 rfl trivial ?_ rfl
  simp only [Tryz.ntmps121, List.size_toArray, List.length_cons, List.length_nil, Nat.reduceAdd, Nat.reduceSub, Array.replicate_succ, Array.replicate_zero, List.push_toArray, List.append_toArray, List.nil_append, List.cons_append]
  have hbW := hW.trans hb
  clear hW hb
  gi_wp2
  gi_loopw [3] (fun p wr => ∃ (pre : List (Nat × List UInt8)) (t : ByteArray), Boxed wr bx 9 (.string t) ∧ t.size ≤ maxLen ∧ Hid (U.pieces u.data.toList = pre ++ U.pieces t.data.toList) ∧ J pre wr)
    (fun p wr => boxLen wr bx)
  case atStart =>
    exact ⟨[], u, hbW, hu, Lib.hid rfl, h0⟩
  case round =>
    obtain ⟨pre, t, hbx, ht, HP, hJs⟩ := hrel
    have hcell := hbx.cell
    have hfr := hbx.frozen
    by_cases h0 : 0 < t.size
    · obtain ⟨r, k, hp, hk1, hk2, hpc⟩ := piece_of t h0
      have HP2 := Lib.hid hpc
      clear hpc
      have HX := Lib.hid hp
      clear hp
      have hlen : pre.length < (U.pieces u.data.toList).length := by rw [HP.out, HP2.out]; simp
      unfold maxLen at ht
      gi_wp2_with fail
      refine ⟨trivial, fun _ => by omega, ?_⟩
      refine (callsIn_wide.2 (first_is t (by unfold maxLen; omega) h0 r k HX.out _)).mono ?_
      rintro e w1 ⟨rfl, m, rfl⟩
      have hJ1 := hJ pre wr (wr.drewN m) none hJs (grownBy_drewN wr m) (fun r e => by cases e)
      obtain ⟨fn, tmps, assign, body, hy, hR⟩ := hY pre (r, (t.extract 0 k).data.toList) (wr.drewN m) hJ1 hlen
      have hpt : (⟨(t.extract 0 k).data.toList.toArray⟩ : ByteArray) = t.extract 0 k := by rw [Array.toArray_toList]
      dsimp only [encP] at hy
      rw [hpt] at hy
      have hbx1 : Boxed (wr.drewN m) bx 9 (.string t) := hbx
      have hc1 := hbx1.cell
      have hf1 := hbx1.frozen
      gi_wp2_with fail
      refine ⟨fun _ => by omega, ?_⟩
      refine hR.mono ?_
      rintro e W3 (⟨rfl, hJ3, hb3⟩ | ⟨rfl, hJx3⟩)
      · have hbx3 : Boxed W3 bx 9 (.string t) := hb3.trans hbx
        have hc3 := hbx3.cell
        have hf3 := hbx3.frozen
        have hJ4 := hJ _ _ _ _ hJ3 (grownBy_setCell' W3 bx (.string (t.extract k t.size))) (fun r e => by cases e; exact ⟨rfl, ⟨t, hbx3⟩, ⟨_, hbx3.set _⟩⟩)
        have hxs : (t.extract k t.size).size = t.size - k := by rw [ByteArray.size_extract]; omega
        gi_wp2
        go_roundw
        case rel =>
          exact ⟨pre ++ [(r, (t.extract 0 k).data.toList)], t.extract k t.size, hbx3.set _, by unfold maxLen; omega, Lib.hid (by rw [HP.out, HP2.out]; simp), hJ4⟩
        case measure =>
          have e1 : boxLen wr bx = t.size := by unfold boxLen; rw [hcell]
          have e2 : boxLen (W3.setCell ⟨bx, 0, none⟩ (.string (t.extract k t.size))) bx = t.size - k := by
            unfold boxLen; rw [(hbx3.set (.string (t.extract k t.size))).cell, ← hxs]
          rw [e1, e2]; omega
      · gi_wp2
        refine bodyPost_ret (results_none rfl _ _ _) rfl ?_
        refine ⟨⟨_, rfl⟩, .inr ⟨pre ++ [(r, (t.extract 0 k).data.toList)], ?_, hJx3⟩⟩
        rw [HP.out, HP2.out]
        exact ⟨U.pieces (t.extract k t.size).data.toList, by simp⟩
    · have HE := Lib.hid (show U.pieces t.data.toList = [] by rw [List.eq_nil_of_length_eq_zero (l := t.data.toList) (by rw [len_list]; omega)]; rfl)
      gi_wp2
      go_end0
      exact ⟨⟨_, rfl⟩, .inl ⟨_, rfl, by rw [HP.out, HE.out, List.append_nil]; exact hJs⟩⟩
end Go.Proofs.YtbclodbneonipaaGreat
namespace Go.Proofs.YtbclodbneonipaaGreat
open Go.RowKit Go.Shelf
attribute [local go_sem] Oper.semAt_some
/-- 'a box holds a slice that owns its row' abides a store to a box of another type -/
theorem holdsRow_box {β : Type} (n₀ B0 bx Bs : Nat) (t e tt : TypeId) (ht : tt ≠ t) (he : tt ≠ e) (size : Nat) (k : β → Nat) (f : β → List Value) (G : β → Value → Prop) :
    OwnBox tt B0 bx (fun s W => ∃ v, Boxed W Bs t v ∧ W.ownsRow n₀ e size v (k s) (f s) ∧ G s v) := by
  rintro s X Y row ⟨v, hv, hr, hG⟩ hg hrow
  refine ⟨v, hv.kept hg (fun e' => ?_), hr.kept hg ?_, hG⟩
  · rcases hrow Bs e'.symm with ⟨_, o, ho, hc⟩ | ⟨rfl, ⟨x, hx⟩, _⟩
    · rw [show X.heap[Bs]? = _ from hv] at ho; cases ho; cases hc
    · have hh := hx.symm.trans (show X.heap[Bs]? = _ from hv)
      simp at hh
      exact ht hh.2
  · rcases hr.2 with ⟨rfl, _⟩ | ⟨g, cap, cur, rfl, _, hgb, _⟩
    · exact .inl rfl
    · refine .inr fun e' => ?_
      rcases hrow g (by simpa [Value.ownBlock] using e'.symm) with ⟨_, o, ho, hc⟩ | ⟨rfl, ⟨x, hx⟩, _⟩
      · rw [hgb] at ho; cases ho; cases hc
      · have hh := hx.symm.trans hgb
        simp at hh
        exact he hh.2
theorem ownBox_below {β : Type} {n₀ B0 bx : Nat} {tt : TypeId} {w : World} (h0 : n₀ ≤ w.heap.size) (h1 : n₀ ≤ B0) (h2 : n₀ ≤ bx) : OwnBox tt B0 bx (fun (_ : β) W => Below n₀ w W) := by
  intro s X Y row hs hg hr
  refine hs.grown hg (by have := hs.size; omega) fun k e => ?_
  rcases hr k e with ⟨h, _⟩ | ⟨h, _⟩ <;> omega
theorem ownBox_text {β : Type} {B0 bx : Nat} {tt : TypeId} : OwnBox tt B0 bx (fun (_ : β) W => TextBox tt bx W) := by
  intro s X Y row hs hg hr
  by_cases e : row = some bx
  · rcases hr bx e with ⟨_, o, ho, hc⟩ | ⟨_, _, h⟩
    · obtain ⟨x, hx⟩ := hs
      rw [hx] at ho; cases ho; cases hc
    · exact h
  · obtain ⟨x, hx⟩ := hs
    exact ⟨x, (hg.block bx (Array.getElem?_eq_some_iff.1 hx).1 (fun h => e h.symm)).trans hx⟩
theorem OwnBox.and {β : Type} {B bx : Nat} {t : TypeId} {I I' : β → World → Prop} (h : OwnBox t B bx I) (h' : OwnBox t B bx I') : OwnBox t B bx (fun s W => I s W ∧ I' s W) := fun s W W' row hs hg hr => ⟨h s W W' row hs.1 hg hr, h' s W W' row hs.2 hg hr⟩
theorem infoRune : (Tryz.prog.info? 21).map (fun i => (i.zero, i.size, i.bytes)) = some (some (.int .i32 0), 1, 4) := by kernel_rfl
set_option maxHeartbeats 1000000 in
theorem parts_box (n : Nat) (u : ByteArray) (w : World) :
    CallsIn Fence.wide n Tryz.prog 115 #[.string u] w fun e w' => e = .returned (.func (.func 121) #[] #[.pointer (some ⟨w.heap.size, 0, none⟩)]) ∧ w' = w.alloc (.cells #[.string u] 9) := by
  refine callsIn_of_wp Tryz.func115 rfl trivial ?_ rfl
  simp only [Tryz.ntmps115, List.size_toArray, List.length_cons, List.length_nil, Nat.reduceAdd, Nat.reduceSub, Array.replicate_succ, Array.replicate_zero, List.push_toArray, List.append_toArray, List.nil_append, List.cons_append]
  gi_wp2
  go_ret
  exact ⟨rfl, rfl⟩
def runeV (x : Nat × List UInt8) : Value := .int .i32 x.1
set_option maxRecDepth 100000 in
set_option maxHeartbeats 4000000 in
theorem decode_box (n : Nat) (hn : 4 ≤ n) (u : ByteArray) (hu : u.size ≤ maxLen) (hx : (U.pieces u.data.toList).length * 4 ≤ 140737488355328) (w : World) :
    CallsIn Fence.wide n Tryz.prog 105 #[.string u] w fun e W' => ∃ v, e = .returned v ∧ W'.ownsRow w.heap.size 21 1 v (U.pieces u.data.toList).length ((U.pieces u.data.toList).map runeV) ∧ (v = .slice none 0 0 ↔ U.pieces u.data.toList = []) ∧ Below w.heap.size w W' := by
  have h1 : 1 ≤ n := by omega
  obtain ⟨i0, hi, hz0, hz1, hz2⟩ := info_parts infoRune
  refine callsIn_of_wp_marks Tryz.func105 rfl trivial ?_ rfl
  simp only [Tryz.ntmps105, List.size_toArray, List.length_cons, List.length_nil, Nat.reduceAdd, Nat.reduceSub, Array.replicate_succ, Array.replicate_zero, List.push_toArray, List.append_toArray, List.nil_append, List.cons_append]
  gi_wp2_with (refine ⟨trivial, ?_⟩; gi_at_call 115; refine (parts_box (n - 1) _ _).mono ?_; rintro e w' ⟨rfl, rfl⟩)
  have bO := Boxed.new w 29 (.slice none 0 0)
  have bN := Boxed.new (w.alloc (.cells #[.slice none 0 0] 29)) 9 (.string u)
  rw [World.size_alloc] at bN
  have hB0 : Below w.heap.size w ((w.alloc (.cells #[.slice none 0 0] 29)).alloc (.cells #[.string u] 9)) := ((Below.refl _ w).alloc (Nat.le_refl _) _).alloc (by simp) _
  refine wpIn_rangeFunc_box rfl h1 (gf := 121) (lb := #[.pointer (some ⟨w.heap.size + 1, 0, none⟩)]) rfl trivial (enters_of Tryz.func121 (by kernel_rfl) rfl) (bx := w.heap.size + 1) (by simp)
    (iter_box (n - 1) (by omega) (w.heap.size + 1) u hu _ bN) (fun _ => rfl)
    (fun pre W => (∃ v, Boxed W w.heap.size 29 v ∧ W.ownsRow w.heap.size 21 1 v pre.length (pre.map runeV) ∧ (v = .slice none 0 0 ↔ pre = [])) ∧ Below w.heap.size w W ∧ TextBox 9 (w.heap.size + 1) W)
    (fun _ _ _ => False)
    (OwnBox.and (holdsRow_box w.heap.size _ (w.heap.size + 1) w.heap.size 29 21 9 (by decide) (by decide) 1 (fun pre => pre.length) (fun pre => pre.map runeV) (fun pre v => v = .slice none 0 0 ↔ pre = [])) (OwnBox.and (ownBox_below (Nat.le_refl _) (by simp; omega) (by omega)) ownBox_text))
    (fun _ _ _ _ _ hs _ _ => hs)
    ⟨⟨_, bO.alloc _, World.ownsRow_nil _ _ _ _, by simp⟩, hB0, ⟨u, bN⟩⟩
    (fun x => { tmps := #[.string u, undef, .slice none 0 0, .pointer (some ⟨w.heap.size, 0, none⟩), .int .i32 x.1, .string u, .func (.func 121) #[] #[.pointer (some ⟨w.heap.size + 1, 0, none⟩)], .int .i32 x.1, .string ⟨x.2.toArray⟩, undef, undef, undef, undef, undef], defers := [] }) ?assign ?body ?done ?stop
  case assign =>
    intro l x W K hK
    unfold encP
    gi_wp2
    exact hK
  case body =>
    rintro l pre x W ⟨⟨v, hv, hrow, hnil⟩, hB, ⟨tx, htx⟩⟩ hlt
    have hc := hv.cell
    gi_wp2_with (gi_at_builtin; refine wpListIn_append_own _ rfl _ _ 29 rfl w.heap.size 21 i0 (.int .i32 0) 1 4 Tryz.underlying29 hi hz0 hz1 hz2 rfl (by decide) _ _ _ rfl (hrow.alloc _) ⟨W.heap.size, 0, none⟩ 1 1 [runeV x] rfl rfl (cell_one_new _ _ _) (by simp [runeV, Value.oneCell']) (by unfold maxLen; omega) (by omega) (by have := hB.size; simp; omega) ?_; intro v' w1 hown' hgrow _; obtain ⟨g', cap', rfl⟩ := ownsRow_succ hown'; obtain ⟨hv1, hv2, hr2, hk2, hb2⟩ := hv.appended (by decide) hrow hB.size (Nat.le_refl _) hown' hgrow; have hc1 := hv1.cell; have hf1 := hv1.frozen)
    have hbx2 : (w1.setCell ⟨w.heap.size, 0, none⟩ (.slice (some ⟨g', 0, none⟩) (pre.length + 1) cap')).heap[w.heap.size + 1]? = W.heap[w.heap.size + 1]? := by
      rw [Below.heap_setCell _ _ _ _ (by simp)]
      have hne : some (w.heap.size + 1) ≠ v.ownBlock := by
        rcases hrow.2 with ⟨rfl, _⟩ | ⟨g, cap, cur, rfl, _, hgb, _⟩
        · simp [Value.ownBlock]
        · intro e'
          have e2 : w.heap.size + 1 = g := by simpa [Value.ownBlock] using e'
          rw [e2, hgb] at htx
          simp at htx
      exact (hgrow.block _ (by have := (Array.getElem?_eq_some_iff.1 htx).1; simp; omega) hne).trans (Below.heap_alloc _ _ _ (Array.getElem?_eq_some_iff.1 htx).1)
    exact ⟨hk2, hbx2, ⟨_, hv2, by simpa using hr2, by simp⟩, hB.trans hb2, ⟨tx, hbx2.trans htx⟩⟩
  case done =>
    rintro D ys W hD rfl ⟨⟨v, hv, hrow, hnil⟩, hB, _⟩ hK
    have hc := hv.cell
    gi_wp2
    refine ⟨by simp, .inl ⟨_, _, rfl, run_takeDeferred hK, ?_⟩⟩
    exact ⟨_, results_tmp rfl _ _ _, v, rfl, ownsRow_putObj hrow _ hK rfl, hnil, hB.trans (belowK_b (w := w) (Nat.le_refl _) W D _ _ (by simp at hD; omega) hK rfl rfl)⟩
  case stop =>
    rintro D c pre W _ _ h _
    exact h.elim
/-- the rune list l, owned in w by v -/
def Runes (w : World) (base : Nat) (v : Value) (l : List Int) : Prop := w.ownsRow base 21 1 v l.length (l.map (Value.int .i32)) ∧ (v = .slice none 0 0 ↔ l = [])
theorem runeV_map (l : List UInt8) : (U.pieces l).map runeV = (U.runesZ l).map (Value.int .i32) := by
  unfold U.runesZ U.runes
  rw [List.map_map, List.map_map]
  rfl
theorem pieces_len (l : List UInt8) : (U.pieces l).length = (U.runesZ l).length := by
  unfold U.runesZ U.runes
  rw [List.length_map, List.length_map]
theorem pieces_nil_iff (l : List UInt8) : U.pieces l = [] ↔ U.runesZ l = [] := by
  rw [← List.length_eq_zero_iff, ← List.length_eq_zero_iff, pieces_len]
theorem decode_runes (u : ByteArray) (l : List Int) (hl : U.runesZ u.data.toList = l) (hu : u.size * 4 ≤ 140737488355328) (w : World) :
    Calls Tryz.prog 105 #[.string u] w fun e w' => ∃ v, e = .returned v ∧ Runes w' w.heap.size v l ∧ Below w.heap.size w w' := by
  have hc := (U.runes_count u.data.toList).1
  rw [len_list] at hc
  refine (callsIn_wide (n := 4)).1 ((decode_box 4 (Nat.le_refl _) u (by unfold maxLen; omega) (by rw [pieces_len]; omega) w).mono ?_)
  rintro e w' ⟨v, rfl, h1, h2, h3⟩
  rw [runeV_map, pieces_len, hl] at h1
  rw [pieces_nil_iff, hl] at h2
  exact ⟨v, rfl, ⟨h1, h2⟩, h3⟩
end Go.Proofs.YtbclodbneonipaaGreat
