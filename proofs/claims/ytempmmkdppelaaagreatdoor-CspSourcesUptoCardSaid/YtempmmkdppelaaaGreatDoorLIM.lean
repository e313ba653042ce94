import Derived.Test.YtempmmkdppelaaaGreatDoorD2M
import Derived.Test.YtempmmkdppelaaaGreatDoorRegInM
import Derived.Sort.BigQuietIn
import Derived.OwnWalkIn
import Derived.Laws.OwnMore
/-
  Inside a round's fence: a region that only reads and calls what makes memory (over the worlds behind one world); a frame as a literal again; an append as the tail of a region. Not tied to a program, but for the class of worlds.
-/
namespace Go
variable {F : Fence} {n : Nat} {P : Program} {ops : Array Oper} {md : Region.Mode} {C : World → Prop}
/-- no operation puts a call off -/
def plainB (ops : Array Oper) : Bool := ops.all fun o => match o.op with
  | .defer _ => false
  | _ => true
theorem plain_of {ops : Array Oper} (h : plainB ops = true) : ∀ (i : Nat) o, ops[i]? = some o → ∀ c, o.op ≠ .defer c := by
  intro i o ho c hc
  unfold plainB at h
  rw [Array.all_eq_true_iff_forall_mem] at h
  have := h o (Array.mem_of_getElem? ho)
  rw [hc] at this
  cases this
theorem Oper.wpIn_of_quiet_plain {o : Oper} {a : Act} {K : Act → Prop} {K' : Act → World → Prop} {Q' : Exit → Act → World → Prop} {w : World} (hp : ∀ c, o.op ≠ .defer c) (hw : C w) (h : ∀ a w', C w' → K a → K' a w')
    (ha : o.askedIn F P a C) (hh : o.quietIn F n P a C K) : o.wpIn F n P a w K' Q' := by
  obtain ⟨v, h1, h2⟩ := hh
  have h3 := h1 w hw
  unfold Oper.quietAtIn at h3
  unfold Oper.wpIn
  refine ⟨ha w hw, ?_⟩
  rw [Oper.semAt_plain F _ _ hp]
  generalize (execOp a.eval o).run P w = r at *
  cases r with
  | ok x w' =>
    cases x <;> simp only [Oper.quietUponIn] at h3 <;> simp only [Oper.uponIn]
    case value u =>
      obtain ⟨e1, e2⟩ := h3
      rw [e1, e2]
      exact h _ _ hw h2
    case skip =>
      obtain ⟨e1, e2⟩ := h3
      rw [e1, ← e2]
      exact h _ _ hw h2
    case enter f args =>
      obtain ⟨e1, hd, hc⟩ := h3
      rw [e1]
      exact ⟨hd, hc.mono fun e w'' ⟨he, hw''⟩ => by subst he; exact h _ _ hw'' h2⟩
  | halt x w' => simp only [Oper.quietUponIn] at h3
theorem wpOpIn_of_qOpIn_plain {i : Nat} {a : Act} {K : Act → Prop} {K' : Act → World → Prop} {Q' : Exit → Act → World → Prop} {w : World} (hp : ∀ (i : Nat) o, ops[i]? = some o → ∀ c, o.op ≠ .defer c) (hC : C w) (h : ∀ a w', C w' → K a → K' a w')
    (hh : qOpIn F n P ops C i K a) : wpOpIn F n P ops Q' i K' a w := by
  unfold qOpIn at hh
  unfold wpOpIn
  split
  · rename_i ho; simp only [ho] at hh; exact h _ _ hC hh
  · rename_i o ho
    simp only [ho] at hh
    obtain ⟨ha, hh⟩ := hh
    split
    · rename_i hw; simp only [hw, if_true] at hh; exact Oper.wpIn_of_quiet_plain (hp i o ho) hC h ha hh
    · rename_i hw; simp only [hw] at hh; exact ⟨ha w hC, h _ _ hC hh⟩
theorem wpAnyIn_of_quiet_plain {Q : Act → Prop} {Q' : Exit → Act → World → Prop} (hp : ∀ (i : Nat) o, ops[i]? = some o → ∀ c, o.op ≠ .defer c) (hQ : ∀ a w, C w → Q a → Q' .normal a w) : ∀ (fuel : Nat) (listed : Array Bool) (a : Act) (w : World), C w →
    wpAnyQIn F n P md ops C Q fuel listed a → wpAnyIn F n P md ops Q' fuel listed a w
  | 0, _, _, _, hw, h => ⟨h.1, hQ _ _ hw h.2⟩
  | fuel + 1, _, _, _, hw, h => ⟨fun h0 => hQ _ _ hw (h.1 h0), fun i hi => wpOpIn_of_qOpIn_plain hp hw (fun a' w' hw' => wpAnyIn_of_quiet_plain hp hQ fuel _ a' w' hw') (h.2 i hi)⟩
theorem wpIn_region_quiet_plain {id : Nat} {Q : Exit → Act → World → Prop} {a : Act} {w : World} (hm : P.follows .mixedOrders = true) (hp : plainB ops = true) (hB : Region.lexB .any ops = true) (hC : C { w with drawn := w.drawn + 1 })
    (h : wpQuietIn F n P ops C (fun a' => ∀ w', C w' → Q .normal a' w') ops.toList a) : (Code.region id ops true).wpIn F n P Q a w := by
  simp only [Region.lexB, Bool.and_eq_true] at hB
  refine wpIn_region_any hm (wpAnyIn_of_quiet_plain (Q := fun a' => ∀ w', C w' → Q .normal a' w') (plain_of hp) (fun _ w' hw' h => h w' hw') _ _ _ _ hC ?_)
  have := wpAnyQIn_lex (F := F) (n := n) (C := C) (md := .any) hB.1 ops.toList 0 (Array.replicate ops.size false) a (by simp) (by simpa using hB.2) h
  simpa using this
end Go
namespace Go.Proofs.YtempmmkdppelaaaGreatDoor
open Go.RowKit
variable {F : Fence} {n : Nat} {P : Program} {ops : Array Oper} {Q : Exit → Act → World → Prop}
theorem wpIn_region_quiet_later {id : Nat} {a : Act} {w : World} {l : List Oper} (hm : P.follows .mixedOrders = true) (hp : plainB l.toArray = true) (hB : Region.lexB .any l.toArray = true)
    (h : wpQuietIn F n P l.toArray (fun w' => ∃ p : Later w, w' = p.v) (fun a' => ∀ w', (∃ p : Later w, w' = p.v) → Q .normal a' w') l a) : (Code.region id l.toArray true).wpIn F n P Q a w :=
  wpIn_region_quiet_plain (C := fun w' => ∃ p : Later w, w' = p.v) hm hp hB ⟨⟨w.drew, (Below.refl _ w).drew⟩, rfl⟩ (by simpa using h)
theorem CallsIn.later_of {f : FuncId} {args : Array Value} {w : World} {p : Later w} {v : Value}
    (h : Calls P f args p.v fun e w' => e = .returned v ∧ Below p.v.heap.size p.v w') : CallsIn Fence.wide n P f args p.v fun e w'' => e = .returned v ∧ ∃ q : Later w, w'' = q.v :=
  (callsIn_wide.2 h).mono fun _ _ ⟨he, hb⟩ => ⟨he, ⟨_, p.h.trans (hb.mono p.h.size)⟩, rfl⟩
/-- a frame that is another's but for some slots -/
theorem frame_act {m : Nat} {sl : Nat → Nat} {a0 a : Act} (h : FrameOf m sl a0 a) (vs : Nat → Value) (hv : ∀ i, i < m → a.eval (.tmp (sl i)) = vs i) :
    a = { a0 with tmps := (List.range m).foldl (fun t i => t.setIfInBounds (sl i) (vs i)) a0.tmps } := by
  obtain ⟨h1, h2, h3⟩ := h
  have key : ∀ (l : List Nat) (t : Array Value), (∀ i ∈ l, i < m) → t.size = a.tmps.size → (l.foldl (fun t i => t.setIfInBounds (sl i) (vs i)) t).size = a.tmps.size ∧
      ∀ k, k < a.tmps.size → (∃ i ∈ l, sl i = k) ∨ t.getD k undef = a.tmps.getD k undef → (l.foldl (fun t i => t.setIfInBounds (sl i) (vs i)) t).getD k undef = a.tmps.getD k undef := by
    intro l
    induction l with
    | nil => intro t _ hs; exact ⟨hs, fun k hk h => by rcases h with ⟨i, hi, _⟩ | h; cases hi; exact h⟩
    | cons x l ih =>
      intro t hl hs
      have hx := hl x (by simp)
      obtain ⟨g1, g2⟩ := ih (t.setIfInBounds (sl x) (vs x)) (fun i hi => hl i (by simp [hi])) (by simpa using hs)
      refine ⟨g1, fun k hk h => g2 k hk ?_⟩
      by_cases hxk : sl x = k
      · subst hxk
        refine .inr ?_
        have e1 : (t.setIfInBounds (sl x) (vs x)).getD (sl x) undef = vs x := by simp [Array.getD, hs, hk]
        rw [e1, ← hv x hx]; rfl
      · rcases h with ⟨i, hi, hik⟩ | h
        · rcases List.mem_cons.1 hi with rfl | hi
          · exact absurd hik hxk
          · exact .inl ⟨i, hi, hik⟩
        · refine .inr ?_
          have e2 : (t.setIfInBounds (sl x) (vs x)).getD k undef = t.getD k undef := by
            simp only [Array.getD, Array.size_setIfInBounds]
            split
            · exact Array.getElem_setIfInBounds_ne (by assumption) hxk
            · rfl
          rw [e2]; exact h
  obtain ⟨g1, g2⟩ := key (List.range m) a0.tmps (fun i hi => List.mem_range.1 hi) h1.symm
  obtain ⟨at_, ad⟩ := a
  obtain ⟨bt, bd⟩ := a0
  simp only at h1 h2 g1 g2
  subst h2
  congr 1
  refine Array.ext g1.symm fun k hk hk2 => ?_
  have e := g2 k hk ?_
  · simp only [Array.getD, hk, hk2, dite_true] at e
    exact e.symm
  · by_cases hi : ∃ i, i < m ∧ sl i = k
    · obtain ⟨i, hi, e⟩ := hi
      exact .inl ⟨i, List.mem_range.2 hi, e⟩
    · refine .inr (h3 k fun i hi' e => hi ⟨i, hi', e⟩).symm
theorem opsIn_cons {i : Nat} {o : Oper} {rest : List Nat} {a : Act} {w : World} (ho : ops[i]? = some o) (hw : Region.wanted o (yielded ops a.tmps) = true) (h : o.wpIn F n P a w (wpOpsIn F n P ops Q rest) Q) : wpOpsIn F n P ops Q (i :: rest) a w := by
  rw [wpOpsIn_cons]
  unfold wpOpIn
  rw [ho]
  simp only [hw, if_true]
  exact h
theorem oper_append_in {o : Oper} {a : Act} {w : World} {K : Act → World → Prop} (s x : Operand) (t : TypeId) (hop : o.op = Op.call { callee := Callee.builtin Builtin.append, args := #[s, x], argTypes := #[t, t] })
    (base : Nat) (e : TypeId) (i : TypeInfo) (z : Value) (size bytes : Nat) (h1 : P.underlying t = some (.slice e)) (h2 : P.info? e = some i) (h3 : i.zero = some z) (h4 : i.size = size) (h5 : i.bytes = bytes) (h6 : z.cells.size = size) (h7 : 0 < size)
    (v : Value) (k : Nat) (xs : List Value) (hs : a.eval s = v) (hown : w.ownsRow base e size v k xs) (ad : Addr) (m c : Nat) (news : List Value) (hx : a.eval x = .slice (some ad) m c) (hn : news.length = m * size)
    (hc : ∀ j u, news[j]? = some u → w.cell? (ad.add j) = some u) (h1c : ∀ u ∈ news, u.oneCell' = true) (b1 : k + m ≤ maxLen) (b2 : (k + m) * bytes ≤ 140737488355328) (b3 : base ≤ w.heap.size)
    (hK : ∀ v' w', w'.ownsRow base e size v' (k + m) (xs ++ news) → w.grownBy w' v.ownBlock → K (a.put o.dst v') w') : o.wpIn F n P a w K Q := by
  obtain ⟨v', w', hrun, r1, r2, r3⟩ := run_append_own (P := P) w base t o.type e i z size bytes h1 h2 h3 h4 h5 h6 h7 v k xs hown ad m c news hn hc h1c b1 b2 b3
  unfold Oper.wpIn
  refine ⟨?_, ?_⟩
  · simp [Oper.about, hop, resolve, Target.leads, Sem.run_pure]
  · rw [Oper.semAt_plain F _ _ (by rw [hop]; intro c hc'; cases hc')]
    simp [execOp, hop, resolve, invoke, builtin, hs, hx, hrun, Result.andThen, Oper.uponIn]
    exact hK _ _ r1 r2
end Go.Proofs.YtempmmkdppelaaaGreatDoor
/-
  The words of a part; steps of Parse's regions.
-/
namespace Go.Proofs.YtempmmkdppelaaaGreatDoor
open Go.RowKit Go.Shelf
theorem spans_len (p : Nat → Bool) (s : ByteArray) : ∀ (f pos : Nat) (st : Option Nat) (acc : List (Nat × Nat)), (Lib.spansFromP p s f pos st acc).1.length ≤ acc.length + f
  | 0, _, _, _ => by simp [Lib.spansFromP]
  | f + 1, pos, st, acc => by
    unfold Lib.spansFromP
    split
    · split
      · cases st with
        | some a => refine Nat.le_trans (spans_len p s f _ _ _) ?_; simp; omega
        | none => refine Nat.le_trans (spans_len p s f _ _ _) ?_; omega
      · cases st with
        | some a => refine Nat.le_trans (spans_len p s f _ _ _) ?_; omega
        | none => refine Nat.le_trans (spans_len p s f _ _ _) ?_; omega
    · simp
theorem words_len (p : List UInt8) : (wordsL p).length ≤ p.length + 1 := by
  unfold wordsL Lib.goFieldsP Lib.spansOfP
  rw [List.length_map]
  have h := spans_len blankR ⟨p.toArray⟩ (ByteArray.size ⟨p.toArray⟩) 0 none []
  have hs : ByteArray.size ⟨p.toArray⟩ = p.length := by show p.toArray.size = _; simp
  rw [hs] at h ⊢
  unfold Lib.closeSpans
  split
  · simp only [List.length_append, List.length_cons, List.length_nil] at *; omega
  · simp only [List.length_nil] at *; omega
theorem words_is (y : ByteArray) (hy : y.size ≤ 2097152) (w : World) :
    Calls Tryz.prog 32 #[.string y, .func (.func 33) #[] #[]] w fun e w' => ∃ A, e = .returned (.slice (some ⟨A, 0, none⟩) (wordsL y.data.toList).length (wordsL y.data.toList).length) ∧ w.heap.size ≤ A ∧
      OwnS w' w.heap.size (.slice (some ⟨A, 0, none⟩) (wordsL y.data.toList).length (wordsL y.data.toList).length) (wordsL y.data.toList) ∧ Below w.heap.size w w' := by
  have e : wordsL y.data.toList = Lib.goFieldsP blankR y := by unfold wordsL; rfl
  rw [e]
  exact Tryz.strings_FieldsFunc_grows 33 #[] (enters_of Tryz.func33 (by kernel_rfl) rfl) blankR y w (by omega) (fun W x hx _ => blank_is x hx W)
/-- what the operations of the last region yield -/
def VP (k : Nat) (v : Value) (nm : ByteArray) (x10 : Value) (vs : List ByteArray) (D : Nat) (bx : Nat) (i : Nat) (x : Value) (w : World) : Prop :=
  match i with
  | 0 => x = .pointer (some ⟨bx, 0, none⟩)
  | 1 => x = v
  | 2 => x = .string nm
  | 3 => x = x10
  | 4 => ∃ q c, x = .slice q k c ∧ OwnS w D x vs
  | 5 => ∃ q c, x = .agg #[.string nm, .slice q k c] ∧ OwnS w D (.slice q k c) vs
  | _ => ∃ g q c, x = .slice (some ⟨g, 0, none⟩) 1 1 ∧ w.heap[g]? = some (.cells #[.string nm, .slice q k c] 35 (0, 0)) ∧ OwnS w D (.slice q k c) vs
theorem VP_mono (k : Nat) (v : Value) (nm : ByteArray) (x10 : Value) (vs : List ByteArray) (D bx : Nat) : ∀ (i : Nat) (x : Value) (w w' : World), VP k v nm x10 vs D bx i x w → Below w.heap.size w w' → VP k v nm x10 vs D bx i x w'
  | 0, _, _, _, h, _ => h
  | 1, _, _, _, h, _ => h
  | 2, _, _, _, h, _ => h
  | 3, _, _, _, h, _ => h
  | 4, _, _, _, ⟨q, c, h1, h2⟩, hb => ⟨q, c, h1, own_to h2 hb⟩
  | 5, _, _, _, ⟨q, c, h1, h2⟩, hb => ⟨q, c, h1, own_to h2 hb⟩
  | _ + 6, _, _, _, ⟨g, q, c, h1, h2, h3⟩, hb => ⟨g, q, c, h1, (hb.block g (Array.getElem?_eq_some_iff.1 h2).1).trans h2, own_to h3 hb⟩
/-- what the operations ahead of the question for a name yield -/
def VN (v : Value) (nm : ByteArray) (bx : Nat) (i : Nat) (x : Value) (w : World) : Prop :=
  match i with
  | 0 => x = .pointer (some ⟨bx, 0, none⟩)
  | 1 => x = v
  | 2 => x = .string nm
  | _ => ∃ b, x = .func (.func 57) #[] #[.pointer (some ⟨b, 0, none⟩)] ∧ Boxed w b 9 (.string nm)
theorem VN_mono (v : Value) (nm : ByteArray) (bx : Nat) : ∀ (i : Nat) (x : Value) (w w' : World), VN v nm bx i x w → Below w.heap.size w w' → VN v nm bx i x w'
  | 0, _, _, _, h, _ => h
  | 1, _, _, _, h, _ => h
  | 2, _, _, _, h, _ => h
  | _ + 3, _, _, _, ⟨b, h1, h2⟩, hb => ⟨b, h1, Boxed.to' h2 hb⟩
/-- one directive more -/
theorem own_more {w5 W : World} {D : Nat} {v v' : Value} {rs : List RD} {q : Option Addr} {c : Nat} {nm : ByteArray} {vs : List ByteArray} (h : OwnD W D v rs) (hr : OwnS W D (.slice q vs.length c) vs)
    (hg : W.grownBy w5 v.ownBlock) (hown : w5.ownsRow D 35 2 v' (rs.length + 1) (encR rs ++ [.string nm, .slice q vs.length c])) : OwnD w5 D v' (rs ++ [⟨nm, q, c, vs⟩]) := by
  have keep : ∀ {u : Value} {l : List ByteArray}, OwnS W D u l → OwnS w5 D u l := by
    intro u l hu
    refine hu.kept hg ?_
    rcases hu.2 with ⟨rfl, _⟩ | ⟨g, cap, cur, rfl, _, hgb, _⟩
    · exact .inl rfl
    · refine .inr fun e => ?_
      rcases h.row.2 with ⟨rfl, _⟩ | ⟨g2, cap2, cur2, rfl, _, hgb2, _⟩
      · simp [Value.ownBlock] at e
      · have : g = g2 := by simpa [Value.ownBlock] using e
        subst this
        rw [hgb] at hgb2; cases hgb2
  refine ⟨?_, ?_⟩
  · rw [List.length_append, encR_snoc]; exact hown
  · intro r hr'
    rcases List.mem_append.1 hr' with h1 | h1
    · exact keep (h.vals r h1)
    · rw [List.mem_singleton] at h1; subst h1; exact keep hr
/-- a store to a box under D -/
theorem ownD_set {W : World} {D b : Nat} {v u : Value} {rs : List RD} (h : OwnD W D v rs) (hb : b < D) : OwnD (W.setCell ⟨b, 0, none⟩ u) D v rs := by
  have keep : ∀ {e size n : Nat} {x : Value} {xs : List Value}, W.ownsRow D e size x n xs → (W.setCell ⟨b, 0, none⟩ u).ownsRow D e size x n xs := by
    intro e size n x xs hx
    refine hx.kept (grownBy_setCell' W b u) ?_
    rcases hx.2 with ⟨rfl, _⟩ | ⟨g, cap, cur, rfl, hD, _, _⟩
    · exact .inl rfl
    · refine .inr fun e => ?_
      have : g = b := by simpa [Value.ownBlock] using e
      omega
  exact ⟨keep h.row, fun r hr => keep (h.vals r hr)⟩
theorem keeps_below {W w1 : World} (hb : Below W.heap.size W w1) : KeepsOthers W w1 := ⟨hb.size, fun k _ h _ => (hb.block k (Array.getElem?_eq_some_iff.1 h).1).trans h⟩
/-- what the operations that take the words apart yield -/
def VW (A k : Nat) (a : ByteArray) (vs : List ByteArray) (i : Nat) (x : Value) (w : World) : Prop :=
  match i with
  | 0 => x = .slice (some ⟨A, 0, none⟩) k k
  | 1 => x = .pointer (some ⟨A, 0, none⟩)
  | 2 => x = .string a
  | 3 => x = .string (lowS a)
  | 4 => x = .slice (some ⟨A, 0, none⟩) k k
  | 5 => ∃ p, x = .slice p vs.length vs.length ∧ Strs w x vs
  | _ => x = .string (lowS a)
theorem VW_mono (A k : Nat) (a : ByteArray) (vs : List ByteArray) : ∀ (i : Nat) (x : Value) (w w' : World), VW A k a vs i x w → Below w.heap.size w w' → VW A k a vs i x w'
  | 0, _, _, _, h, _ => h
  | 1, _, _, _, h, _ => h
  | 2, _, _, _, h, _ => h
  | 3, _, _, _, h, _ => h
  | 4, _, _, _, h, _ => h
  | 5, _, _, _, ⟨p, h1, h2⟩, hb => ⟨p, h1, h2.to hb⟩
  | _ + 6, _, _, _, h, _ => h
/-- the list behind the first of its texts -/
theorem strs_tail {w : World} {B A : Nat} {a : ByteArray} {vs : List ByteArray} {n c : Nat} (h : OwnS w B (.slice (some ⟨A, 0, none⟩) n c) (a :: vs)) (o : Nat) (ho : vs ≠ [] → o = 1) : Strs w (.slice (some ⟨A, o, none⟩) vs.length vs.length) vs := by
  refine ⟨_, _, rfl, fun i x hx => ?_⟩
  have hne : vs ≠ [] := by intro e; rw [e] at hx; simp at hx
  rw [ho hne]
  have hil : i < vs.length := (List.getElem?_eq_some_iff.1 hx).1
  obtain ⟨p, cap, hv, hc⟩ := strs_own h
  obtain ⟨g, o2, hp, hg, h1⟩ := hc (i + 1) x (by simpa using hx)
  rcases h.2 with ⟨e, h0⟩ | ⟨g3, cap3, cur, e, _, hgb, _⟩
  · simp at h0
  · cases e
    refine ⟨A, 1, rfl, (Array.getElem?_eq_some_iff.1 hgb).1, ?_⟩
    have := h.cellAt (1 + i) (by rw [List.length_cons]; omega)
    rw [this, Nat.add_comm 1 i, List.map_cons, List.getElem?_cons_succ, List.getElem?_map, hx]; rfl
theorem own_set_under {W : World} {D e size n : Nat} {x : Value} {xs : List Value} (hx : W.ownsRow D e size x n xs) {p : Addr} (hp : p.block < D) (u : Value) : (W.setCell p u).ownsRow D e size x n xs := by
  refine ⟨hx.1, hx.2.imp id ?_⟩
  rintro ⟨g, cap, cur, h1, h2, h3, h4⟩
  exact ⟨g, cap, cur, h1, h2, (Below.heap_setCell W p u g (by omega)).trans h3, h4⟩
/-- three stores: a policy's two cells and an error's -/
def st3 (W : World) (b : Nat) (v r e : Value) : World := ((W.setCell ⟨b, 0, none⟩ v).setCell ⟨b, 1, none⟩ r).setCell ⟨b + 1, 0, none⟩ e
theorem store3 {W : World} {b : Nat} {v0 r0 e0 : Value} (v r e : Value) (h0 : Has W b (.cells #[v0, r0] 25)) (h1 : Has W (b + 1) (.cells #[e0] 26)) :
    W.cell? ⟨b, 0, none⟩ = some v0 ∧ W.frozen? ⟨b, 0, none⟩ = false ∧ (W.setCell ⟨b, 0, none⟩ v).cell? ⟨b, 1, none⟩ = some r0 ∧ (W.setCell ⟨b, 0, none⟩ v).frozen? ⟨b, 1, none⟩ = false ∧
    ((W.setCell ⟨b, 0, none⟩ v).setCell ⟨b, 1, none⟩ r).cell? ⟨b + 1, 0, none⟩ = some e0 ∧ ((W.setCell ⟨b, 0, none⟩ v).setCell ⟨b, 1, none⟩ r).frozen? ⟨b + 1, 0, none⟩ = false ∧
    Has (st3 W b v r e) b (.cells #[v, r] 25) ∧ Has (st3 W b v r e) (b + 1) (.cells #[e] 26) := by
  have a1 : Has (W.setCell ⟨b, 0, none⟩ v) b (.cells #[v, r0] 25) := h0.set 0 v
  have a2 : Has ((W.setCell ⟨b, 0, none⟩ v).setCell ⟨b, 1, none⟩ r) b (.cells #[v, r] 25) := a1.set 1 r
  have c2 : Has ((W.setCell ⟨b, 0, none⟩ v).setCell ⟨b, 1, none⟩ r) (b + 1) (.cells #[e0] 26) := (h1.far (by simp) _).far (by simp) _
  exact ⟨h0.cell 0 rfl, h0.free 0, a1.cell 1 rfl, a1.free 1, c2.cell 0 rfl, c2.free 0, a2.far (by simp) _, c2.set 0 e⟩
theorem st3_below {w W : World} {B b : Nat} (v r e : Value) (h : Below B w W) (hb : B ≤ b) : Below B w (st3 W b v r e) :=
  ((h.setCell (p := ⟨b, 0, none⟩) hb _).setCell (p := ⟨b, 1, none⟩) hb _).setCell (p := ⟨b + 1, 0, none⟩) (Nat.le_succ_of_le hb) _
theorem st3_keeps (W : World) (b : Nat) (v r e : Value) : KeepsOthers W (st3 W b v r e) := ((KeepsOthers.setCell _ _ _).trans (KeepsOthers.setCell _ _ _)).trans (KeepsOthers.setCell _ _ _)
theorem has_grown {A C : World} {D e size n : Nat} {v : Value} {xs : List Value} (h : A.ownsRow D e size v n xs) (hg : A.grownBy C v.ownBlock) {k : Nat} {o : Obj} (hk : Has A k o) (hD : k < D) : Has C k o := by
  refine (hg.block k hk.lt fun e => ?_).trans hk
  rcases h.2 with ⟨rfl, _⟩ | ⟨g, cap, cur, rfl, hb, _, _⟩
  · simp [Value.ownBlock] at e
  · have : k = g := by simpa [Value.ownBlock] using e
    omega
theorem push_all {A C : World} {b D n : Nat} {v v' : Value} {rep : Bool} {rs : List RD} {q : Option Addr} {c : Nat} {nm : ByteArray} {vs : List ByteArray} (h2 : Has A b (.cells #[v, .bool rep] 25)) (ho : OwnD A D v rs) (hr : OwnS A D (.slice q vs.length c) vs)
    (hg : A.grownBy C v.ownBlock) (hown : C.ownsRow D 35 2 v' (rs.length + 1) (encR rs ++ [.string nm, .slice q vs.length c])) (hb : b < D) (hn : n ≤ b) (hDA : n ≤ A.heap.size) :
    C.cell? ⟨b, 0, none⟩ = some v ∧ C.frozen? ⟨b, 0, none⟩ = false ∧ Has (C.setCell ⟨b, 0, none⟩ v') b (.cells #[v', .bool rep] 25) ∧ OwnD (C.setCell ⟨b, 0, none⟩ v') D v' (rs ++ [⟨nm, q, c, vs⟩]) ∧
    (∀ k o, Has A k o → k < D → k ≠ b → Has (C.setCell ⟨b, 0, none⟩ v') k o) ∧ KeepsOthers A (C.setCell ⟨b, 0, none⟩ v') ∧ (∀ w0, Below n w0 A → Below n w0 (C.setCell ⟨b, 0, none⟩ v')) := by
  have hc : Has C b (.cells #[v, .bool rep] 25) := has_grown ho.row hg h2 hb
  refine ⟨hc.cell 0 rfl, hc.free 0, hc.set 0 v', ownD_set (own_more ho hr hg hown) hb, fun k o hk hkD hkb => (has_grown ho.row hg hk hkD).far (by simpa using hkb) _, ?_, fun w0 h0 => ?_⟩
  · refine (KeepsOthers.of_grownBy hg fun j o ej hj => ?_).trans (KeepsOthers.setCell _ _ _)
    rcases ho.row.2 with ⟨rfl, _⟩ | ⟨g, cap, cur, rfl, _, hgb, _⟩
    · simp [Value.ownBlock] at ej
    · obtain rfl : g = j := by simpa [Value.ownBlock] using ej
      rw [hgb] at hj; cases hj; rfl
  · refine (h0.grown hg hDA fun j ej => ?_).setCell (p := ⟨b, 0, none⟩) hn v'
    rcases ho.row.2 with ⟨rfl, _⟩ | ⟨g, cap, cur, rfl, hb2, _, _⟩
    · simp [Value.ownBlock] at ej
    · obtain rfl : g = j := by simpa [Value.ownBlock] using ej
      omega
theorem ownD_st3 {W : World} {D b : Nat} {v a r e : Value} {rs : List RD} (h : OwnD W D v rs) (hb : b + 1 < D) : OwnD (st3 W b a r e) D v rs := by
  have keep : ∀ {e2 size n : Nat} {x u : Value} {xs : List Value} {W : World} (p : Addr), p.block < D → W.ownsRow D e2 size x n xs → (W.setCell p u).ownsRow D e2 size x n xs := by
    intro e2 size n x u xs W p hp hx
    exact own_set_under hx hp u
  exact ⟨keep _ (by simp; omega) (keep _ (by simp; omega) (keep _ (by simp; omega) h.row)), fun r hr => keep _ (by simp; omega) (keep _ (by simp; omega) (keep _ (by simp; omega) (h.vals r hr)))⟩
end Go.Proofs.YtempmmkdppelaaaGreatDoor
