import Derived.Test.YtempmmkdppelaaaGreatDoorD6M
import Derived.Test.YtempmmkdppelaaaGreatDoorCSM
import Derived.Test.YtempmmkdppelaaaGreatDoorRegInM
import Derived.Shelf.Strings.FieldsFuncGrows
import Derived.Test.YtempmmkdppelaaaGreatDoorD2M
import Derived.Sort.BigQuietIn
import Derived.OwnWalkIn
import Derived.Laws.OwnMore
/-
  csp's Parse: what a text is read as, and the walk's set-up.
-/
namespace Go.Proofs.YtempmmkdppelaaaGreatDoor
open Go.RowKit Go.Shelf
attribute [local go_sem] Oper.semAt_some
/-- the words of a part -/
def wordsL (p : List UInt8) : List ByteArray := Lib.goFieldsP blankR ⟨p.toArray⟩
/-- one part more: none is: too many -/
def stepD (st : Option (List Dir)) (p : List UInt8) : Option (List Dir) :=
  match st with
  | none => none
  | some l => match wordsL p with
    | [] => some l
    | a :: vs => if l.any (isD (lowS a)) then some l else if l.length = 64 ∨ 64 < vs.length then none else some (l ++ [(lowS a, vs)])
def partsD (ps : List (List UInt8)) : Option (List Dir) := ps.foldl stepD (some [])
/-- the directives of a text -/
def parseD (s : List UInt8) : Option (List Dir) := partsD (Ks.partsAt 59 s)
theorem partsD_snoc (ps : List (List UInt8)) (p : List UInt8) : partsD (ps ++ [p]) = stepD (partsD ps) p := by unfold partsD; rw [List.foldl_append]; rfl
/-- a directive's cells: its name and where its values lie -/
structure RD where
  n : ByteArray
  q : Option Addr
  c : Nat
  vs : List ByteArray
def RD.dir (r : RD) : Dir := (r.n, r.vs)
def RD.val (r : RD) : Value := .slice r.q r.vs.length r.c
def encR (l : List RD) : List Value := l.flatMap fun r => [.string r.n, r.val]
theorem encR_len (l : List RD) : (encR l).length = l.length * 2 := by
  induction l with
  | nil => rfl
  | cons x l ih => unfold encR at ih ⊢; rw [List.flatMap_cons, List.length_append, ih]; simp; omega
theorem encR_snoc (l : List RD) (r : RD) : encR (l ++ [r]) = encR l ++ [.string r.n, r.val] := by unfold encR; rw [List.flatMap_append]; simp
theorem info35f : (Tryz.prog.info? 35).map (fun i => (i.zero, i.size, i.bytes)) = some (some (.agg #[.string ⟨#[]⟩, .slice none 0 0]), 2, 40) := by kernel_rfl
open Ks in
/-- what may change: the iterator's box alone -/
def OnlyBx (B bx : Nat) (A C : World) (row : Option Nat) : Prop := ∀ r, row = some r → (B ≤ r ∧ ∃ o : Obj, A.heap[r]? = some o ∧ o.isCells = false) ∨ (r = bx ∧ Ks.TextBox 9 bx A ∧ Ks.TextBox 9 bx C)
theorem has_keep {A C : World} {row : Option Nat} {B bx k t : Nat} {cs : Array Value} (hg : A.grownBy C row) (hr : OnlyBx B bx A C row) (h : Has A k (.cells cs t)) (hk : k ≠ bx) : Has C k (.cells cs t) := by
  refine (hg.block k h.lt (fun e => ?_)).trans h
  rcases hr k e.symm with ⟨_, o, ho, hc⟩ | ⟨e2, _⟩
  · rw [show A.heap[k]? = _ from h] at ho; cases ho; cases hc
  · exact hk e2
theorem own_keep {A C : World} {row : Option Nat} {B bx D e size n : Nat} {v : Value} {xs : List Value} (hg : A.grownBy C row) (hr : OnlyBx B bx A C row) (hD : bx < D) (h : A.ownsRow D e size v n xs) : C.ownsRow D e size v n xs := by
  refine h.kept hg ?_
  rcases h.2 with ⟨rfl, _⟩ | ⟨g, cap, cur, rfl, hDg, hgb, _⟩
  · exact .inl rfl
  · refine .inr fun e' => ?_
    rcases hr g (by simpa [Value.ownBlock] using e'.symm) with ⟨_, o, ho, hc⟩ | ⟨e2, _⟩
    · rw [hgb] at ho; cases ho; cases hc
    · omega
theorem text_keep {A C : World} {row : Option Nat} {B bx : Nat} (hg : A.grownBy C row) (hr : OnlyBx B bx A C row) (h : Ks.TextBox 9 bx A) : Ks.TextBox 9 bx C := by
  by_cases e : row = some bx
  · rcases hr bx e with ⟨_, o, ho, hc⟩ | ⟨_, _, h'⟩
    · obtain ⟨x, hx⟩ := h
      rw [hx] at ho; cases ho; cases hc
    · exact h'
  · obtain ⟨x, hx⟩ := h
    exact ⟨x, (hg.block bx (Array.getElem?_eq_some_iff.1 hx).1 (fun h => e h.symm)).trans hx⟩
theorem below_keep {w A C : World} {row : Option Nat} {B bx : Nat} (hg : A.grownBy C row) (hr : OnlyBx B bx A C row) (hB : w.heap.size ≤ B) (hbx : w.heap.size ≤ bx) (h : Below w.heap.size w A) : Below w.heap.size w C := by
  refine h.grown hg h.size fun k e => ?_
  rcases hr k e with ⟨h, _⟩ | ⟨h, _⟩ <;> omega
/-- the directives lie at v, of the call's own -/
structure OwnD (W : World) (D : Nat) (v : Value) (rs : List RD) : Prop where
  row : W.ownsRow D 35 2 v rs.length (encR rs)
  vals : ∀ r ∈ rs, OwnS W D r.val r.vs
theorem OwnD.to {W W' : World} {D : Nat} {v : Value} {rs : List RD} (h : OwnD W D v rs) (hb : Below W.heap.size W W') : OwnD W' D v rs := ⟨own_to h.row hb, fun r hr => own_to (h.vals r hr) hb⟩
theorem OwnD.dirs {W : World} {D : Nat} {v : Value} {rs : List RD} (h : OwnD W D v rs) : Dirs W v (rs.map RD.dir) := by
  have hv := h.vals
  rcases h.row.2 with ⟨rfl, h0⟩ | ⟨g, cap, cur, rfl, hb, hgb, hnc, _⟩
  · have : rs = [] := List.eq_nil_of_length_eq_zero h0
    subst this
    exact ⟨none, 0, rfl, Nat.le_refl _, fun k x hk => by simp at hk⟩
  · refine ⟨_, cap, by rw [List.length_map], by rw [List.length_map]; exact hnc, fun k x hk => ?_⟩
    rw [List.getElem?_map] at hk
    obtain ⟨r, hr, rfl⟩ := Option.map_eq_some_iff.1 hk
    have hkl : k < rs.length := (List.getElem?_eq_some_iff.1 hr).1
    have hat : ∀ j, j < 2 → (encR rs)[k * 2 + j]? = ([.string r.n, r.val] : List Value)[j]? := fun j hj => by
      have e : encR rs = encR (rs.take k) ++ ([.string r.n, r.val] ++ encR (rs.drop (k + 1))) := by
        conv => lhs; rw [← List.take_append_drop k rs, List.drop_eq_getElem_cons hkl]
        unfold encR
        rw [List.flatMap_append, List.flatMap_cons]
        have : rs[k] = r := (List.getElem?_eq_some_iff.1 hr).2
        rw [this]
      have hl : (encR (rs.take k)).length = k * 2 := by rw [encR_len, List.length_take_of_le (by omega)]
      rw [e, List.getElem?_append_right (by omega), hl, Nat.add_sub_cancel_left, List.getElem?_append_left (by simpa using hj)]
    refine ⟨g, 0, r.val, rfl, (Array.getElem?_eq_some_iff.1 hgb).1, ?_, ?_, strs_own (hv r (List.mem_of_getElem? hr))⟩
    · rw [Nat.zero_add, h.row.cellAt (k * 2) (by omega)]; exact hat 0 (by omega)
    · rw [Nat.zero_add, h.row.cellAt (k * 2 + 1) (by omega)]; exact hat 1 (by omega)
theorem ownD_keep {A C : World} {row : Option Nat} {B bx D : Nat} {v : Value} {rs : List RD} (hg : A.grownBy C row) (hr : OnlyBx B bx A C row) (hD : bx < D) (h : OwnD A D v rs) : OwnD C D v rs := ⟨own_keep hg hr hD h.row, fun r hr' => own_keep hg hr hD (h.vals r hr')⟩
/-- what holds between the parts -/
structure InvP (w : World) (rep : Bool) (ps : List (List UInt8)) (W : World) : Prop where
  out : ∃ v rs, Has W (w.heap.size + 2) (.cells #[v, .bool rep] 25) ∧ OwnD W (w.heap.size + 6) v rs ∧ partsD ps = some (rs.map RD.dir) ∧ rs.length ≤ 64
  b : Below w.heap.size w W
  h0 : Has W w.heap.size (.cells #[.slice none 0 0, .bool false] 25)
  h1 : Has W (w.heap.size + 1) (.cells #[.int .i64 0] 26)
  tx : Ks.TextBox 9 (w.heap.size + 3) W
  be : Boxed W (w.heap.size + 4) 9 (.string ⟨#[59]⟩)
  bv : Boxed W (w.heap.size + 5) 3 (.int .i64 0)
/-- what holds where it ends with an error -/
structure StopP (w : World) (c : Code) (ps : List (List UInt8)) (W : World) : Prop where
  b : Below w.heap.size w W
  h0 : Has W w.heap.size (.cells #[.slice none 0 0, .bool false] 25)
  h1 : Has W (w.heap.size + 1) (.cells #[.int .i64 3] 26)
  r : c = .ret
  n : partsD ps = none
theorem invP_box (w : World) (rep : Bool) (B : Nat) (hB : w.heap.size ≤ B) : Ks.OwnBox (β := List Ks.PL) 9 B (w.heap.size + 3) (fun pre W => InvP w rep (pre.map Subtype.val) W) := by
  intro s A C row h hg hr
  obtain ⟨v, rs, h2, ho, hp, hl⟩ := h.out
  exact ⟨⟨v, rs, has_keep hg hr h2 (by omega), ownD_keep hg hr (by omega) ho, hp, hl⟩, below_keep hg hr hB (by omega) h.b, has_keep hg hr h.h0 (by omega), has_keep hg hr h.h1 (by omega), text_keep hg hr h.tx, has_keep hg hr h.be (by omega), has_keep hg hr h.bv (by omega)⟩
theorem stopP_box (w : World) (c : Code) (B : Nat) (hB : w.heap.size ≤ B) : Ks.OwnBox (β := List Ks.PL) 9 B (w.heap.size + 3) (fun pre W => StopP w c (pre.map Subtype.val) W) := by
  intro s A C row h hg hr
  exact ⟨below_keep hg hr hB (by omega) h.b, has_keep hg hr h.h0 (by omega), has_keep hg hr h.h1 (by omega), h.r, h.n⟩
theorem partsD_none {ps qs : List (List UInt8)} (h : partsD ps = none) (hp : ps <+: qs) : partsD qs = none := by
  obtain ⟨t, rfl⟩ := hp
  unfold partsD at *
  rw [List.foldl_append, h]
  induction t with
  | nil => rfl
  | cons x t ih => exact ih
theorem words_size (p : List UInt8) : ∀ x ∈ wordsL p, x.size ≤ p.length := by
  intro x hx
  unfold wordsL Lib.goFieldsP at hx
  obtain ⟨y, _, rfl⟩ := List.mem_map.1 hx
  rw [ByteArray.size_extract]
  show min _ p.toArray.size - _ ≤ _
  simp only [List.size_toArray]; omega
end Go.Proofs.YtempmmkdppelaaaGreatDoor
/-
  Inside a round's fence: a region that only reads and calls what makes memory (over the worlds behind one world); a frame as a literal again; an append as the tail of a region. Not tied to a program, but for the class of worlds.
-/
namespace Go
variable {F : Fence} {n : Nat} {P : Program} {ops : Array Oper} {md : Region.Mode} {C : World → Prop}
/-- no operation puts a call off -/
def plainB (ops : Array Oper) : Bool := ops.all fun o => match o.op with
  | .defer _ => false
  | _ => true
theorem plain_of {ops : Array Oper} (h : plainB ops = true) : ∀ (i : Nat) o, ops[i]? = some o → ∀ c, o.op ≠ .defer c := by
  intro i o ho c hc
  unfold plainB at h
  rw [Array.all_eq_true_iff_forall_mem] at h
  have := h o (Array.mem_of_getElem? ho)
  rw [hc] at this
  cases this
theorem Oper.wpIn_of_quiet_plain {o : Oper} {a : Act} {K : Act → Prop} {K' : Act → World → Prop} {Q' : Exit → Act → World → Prop} {w : World} (hp : ∀ c, o.op ≠ .defer c) (hw : C w) (h : ∀ a w', C w' → K a → K' a w')
    (ha : o.askedIn F P a C) (hh : o.quietIn F n P a C K) : o.wpIn F n P a w K' Q' := by
  obtain ⟨v, h1, h2⟩ := hh
  have h3 := h1 w hw
  unfold Oper.quietAtIn at h3
  unfold Oper.wpIn
  refine ⟨ha w hw, ?_⟩
  rw [Oper.semAt_plain F _ _ hp]
  generalize (execOp a.eval o).run P w = r at *
  cases r with
  | ok x w' =>
    cases x <;> simp only [Oper.quietUponIn] at h3 <;> simp only [Oper.uponIn]
    case value u =>
      obtain ⟨e1, e2⟩ := h3
      rw [e1, e2]
      exact h _ _ hw h2
    case skip =>
      obtain ⟨e1, e2⟩ := h3
      rw [e1, ← e2]
      exact h _ _ hw h2
    case enter f args =>
      obtain ⟨e1, hd, hc⟩ := h3
      rw [e1]
      exact ⟨hd, hc.mono fun e w'' ⟨he, hw''⟩ => by subst he; exact h _ _ hw'' h2⟩
  | halt x w' => simp only [Oper.quietUponIn] at h3
theorem wpOpIn_of_qOpIn_plain {i : Nat} {a : Act} {K : Act → Prop} {K' : Act → World → Prop} {Q' : Exit → Act → World → Prop} {w : World} (hp : ∀ (i : Nat) o, ops[i]? = some o → ∀ c, o.op ≠ .defer c) (hC : C w) (h : ∀ a w', C w' → K a → K' a w')
    (hh : qOpIn F n P ops C i K a) : wpOpIn F n P ops Q' i K' a w := by
  unfold qOpIn at hh
  unfold wpOpIn
  split
  · rename_i ho; simp only [ho] at hh; exact h _ _ hC hh
  · rename_i o ho
    simp only [ho] at hh
    obtain ⟨ha, hh⟩ := hh
    split
    · rename_i hw; simp only [hw, if_true] at hh; exact Oper.wpIn_of_quiet_plain (hp i o ho) hC h ha hh
    · rename_i hw; simp only [hw] at hh; exact ⟨ha w hC, h _ _ hC hh⟩
theorem wpAnyIn_of_quiet_plain {Q : Act → Prop} {Q' : Exit → Act → World → Prop} (hp : ∀ (i : Nat) o, ops[i]? = some o → ∀ c, o.op ≠ .defer c) (hQ : ∀ a w, C w → Q a → Q' .normal a w) : ∀ (fuel : Nat) (listed : Array Bool) (a : Act) (w : World), C w →
    wpAnyQIn F n P md ops C Q fuel listed a → wpAnyIn F n P md ops Q' fuel listed a w
  | 0, _, _, _, hw, h => ⟨h.1, hQ _ _ hw h.2⟩
  | fuel + 1, _, _, _, hw, h => ⟨fun h0 => hQ _ _ hw (h.1 h0), fun i hi => wpOpIn_of_qOpIn_plain hp hw (fun a' w' hw' => wpAnyIn_of_quiet_plain hp hQ fuel _ a' w' hw') (h.2 i hi)⟩
theorem wpIn_region_quiet_plain {id : Nat} {Q : Exit → Act → World → Prop} {a : Act} {w : World} (hm : P.follows .mixedOrders = true) (hp : plainB ops = true) (hB : Region.lexB .any ops = true) (hC : C { w with drawn := w.drawn + 1 })
    (h : wpQuietIn F n P ops C (fun a' => ∀ w', C w' → Q .normal a' w') ops.toList a) : (Code.region id ops true).wpIn F n P Q a w := by
  simp only [Region.lexB, Bool.and_eq_true] at hB
  refine wpIn_region_any hm (wpAnyIn_of_quiet_plain (Q := fun a' => ∀ w', C w' → Q .normal a' w') (plain_of hp) (fun _ w' hw' h => h w' hw') _ _ _ _ hC ?_)
  have := wpAnyQIn_lex (F := F) (n := n) (C := C) (md := .any) hB.1 ops.toList 0 (Array.replicate ops.size false) a (by simp) (by simpa using hB.2) h
  simpa using this
end Go
namespace Go.Proofs.YtempmmkdppelaaaGreatDoor
open Go.RowKit
variable {F : Fence} {n : Nat} {P : Program} {ops : Array Oper} {Q : Exit → Act → World → Prop}
theorem wpIn_region_quiet_later {id : Nat} {a : Act} {w : World} {l : List Oper} (hm : P.follows .mixedOrders = true) (hp : plainB l.toArray = true) (hB : Region.lexB .any l.toArray = true)
    (h : wpQuietIn F n P l.toArray (fun w' => ∃ p : Later w, w' = p.v) (fun a' => ∀ w', (∃ p : Later w, w' = p.v) → Q .normal a' w') l a) : (Code.region id l.toArray true).wpIn F n P Q a w :=
  wpIn_region_quiet_plain (C := fun w' => ∃ p : Later w, w' = p.v) hm hp hB ⟨⟨w.drew, (Below.refl _ w).drew⟩, rfl⟩ (by simpa using h)
theorem CallsIn.later_of {f : FuncId} {args : Array Value} {w : World} {p : Later w} {v : Value}
    (h : Calls P f args p.v fun e w' => e = .returned v ∧ Below p.v.heap.size p.v w') : CallsIn Fence.wide n P f args p.v fun e w'' => e = .returned v ∧ ∃ q : Later w, w'' = q.v :=
  (callsIn_wide.2 h).mono fun _ _ ⟨he, hb⟩ => ⟨he, ⟨_, p.h.trans (hb.mono p.h.size)⟩, rfl⟩
/-- a frame that is another's but for some slots -/
theorem frame_act {m : Nat} {sl : Nat → Nat} {a0 a : Act} (h : FrameOf m sl a0 a) (vs : Nat → Value) (hv : ∀ i, i < m → a.eval (.tmp (sl i)) = vs i) :
    a = { a0 with tmps := (List.range m).foldl (fun t i => t.setIfInBounds (sl i) (vs i)) a0.tmps } := by
  obtain ⟨h1, h2, h3⟩ := h
  have key : ∀ (l : List Nat) (t : Array Value), (∀ i ∈ l, i < m) → t.size = a.tmps.size → (l.foldl (fun t i => t.setIfInBounds (sl i) (vs i)) t).size = a.tmps.size ∧
      ∀ k, k < a.tmps.size → (∃ i ∈ l, sl i = k) ∨ t.getD k undef = a.tmps.getD k undef → (l.foldl (fun t i => t.setIfInBounds (sl i) (vs i)) t).getD k undef = a.tmps.getD k undef := by
    intro l
    induction l with
    | nil => intro t _ hs; exact ⟨hs, fun k hk h => by rcases h with ⟨i, hi, _⟩ | h; cases hi; exact h⟩
    | cons x l ih =>
      intro t hl hs
      have hx := hl x (by simp)
      obtain ⟨g1, g2⟩ := ih (t.setIfInBounds (sl x) (vs x)) (fun i hi => hl i (by simp [hi])) (by simpa using hs)
      refine ⟨g1, fun k hk h => g2 k hk ?_⟩
      by_cases hxk : sl x = k
      · subst hxk
        refine .inr ?_
        have e1 : (t.setIfInBounds (sl x) (vs x)).getD (sl x) undef = vs x := by simp [Array.getD, hs, hk]
        rw [e1, ← hv x hx]; rfl
      · rcases h with ⟨i, hi, hik⟩ | h
        · rcases List.mem_cons.1 hi with rfl | hi
          · exact absurd hik hxk
          · exact .inl ⟨i, hi, hik⟩
        · refine .inr ?_
          have e2 : (t.setIfInBounds (sl x) (vs x)).getD k undef = t.getD k undef := by
            simp only [Array.getD, Array.size_setIfInBounds]
            split
            · exact Array.getElem_setIfInBounds_ne (by assumption) hxk
            · rfl
          rw [e2]; exact h
  obtain ⟨g1, g2⟩ := key (List.range m) a0.tmps (fun i hi => List.mem_range.1 hi) h1.symm
  obtain ⟨at_, ad⟩ := a
  obtain ⟨bt, bd⟩ := a0
  simp only at h1 h2 g1 g2
  subst h2
  congr 1
  refine Array.ext g1.symm fun k hk hk2 => ?_
  have e := g2 k hk ?_
  · simp only [Array.getD, hk, hk2, dite_true] at e
    exact e.symm
  · by_cases hi : ∃ i, i < m ∧ sl i = k
    · obtain ⟨i, hi, e⟩ := hi
      exact .inl ⟨i, List.mem_range.2 hi, e⟩
    · refine .inr (h3 k fun i hi' e => hi ⟨i, hi', e⟩).symm
theorem opsIn_cons {i : Nat} {o : Oper} {rest : List Nat} {a : Act} {w : World} (ho : ops[i]? = some o) (hw : Region.wanted o (yielded ops a.tmps) = true) (h : o.wpIn F n P a w (wpOpsIn F n P ops Q rest) Q) : wpOpsIn F n P ops Q (i :: rest) a w := by
  rw [wpOpsIn_cons]
  unfold wpOpIn
  rw [ho]
  simp only [hw, if_true]
  exact h
theorem oper_append_in {o : Oper} {a : Act} {w : World} {K : Act → World → Prop} (s x : Operand) (t : TypeId) (hop : o.op = Op.call { callee := Callee.builtin Builtin.append, args := #[s, x], argTypes := #[t, t] })
    (base : Nat) (e : TypeId) (i : TypeInfo) (z : Value) (size bytes : Nat) (h1 : P.underlying t = some (.slice e)) (h2 : P.info? e = some i) (h3 : i.zero = some z) (h4 : i.size = size) (h5 : i.bytes = bytes) (h6 : z.cells.size = size) (h7 : 0 < size)
    (v : Value) (k : Nat) (xs : List Value) (hs : a.eval s = v) (hown : w.ownsRow base e size v k xs) (ad : Addr) (m c : Nat) (news : List Value) (hx : a.eval x = .slice (some ad) m c) (hn : news.length = m * size)
    (hc : ∀ j u, news[j]? = some u → w.cell? (ad.add j) = some u) (h1c : ∀ u ∈ news, u.oneCell' = true) (b1 : k + m ≤ maxLen) (b2 : (k + m) * bytes ≤ 140737488355328) (b3 : base ≤ w.heap.size)
    (hK : ∀ v' w', w'.ownsRow base e size v' (k + m) (xs ++ news) → w.grownBy w' v.ownBlock → K (a.put o.dst v') w') : o.wpIn F n P a w K Q := by
  obtain ⟨v', w', hrun, r1, r2, r3⟩ := run_append_own (P := P) w base t o.type e i z size bytes h1 h2 h3 h4 h5 h6 h7 v k xs hown ad m c news hn hc h1c b1 b2 b3
  unfold Oper.wpIn
  refine ⟨?_, ?_⟩
  · simp [Oper.about, hop, resolve, Target.leads, Sem.run_pure]
  · rw [Oper.semAt_plain F _ _ (by rw [hop]; intro c hc'; cases hc')]
    simp [execOp, hop, resolve, invoke, builtin, hs, hx, hrun, Result.andThen, Oper.uponIn]
    exact hK _ _ r1 r2
end Go.Proofs.YtempmmkdppelaaaGreatDoor
