/-
  The contract of query's Parse.
-/
import Derived.Test.YtnjnhgeafbofkaaDoorF4M
import Derived.Test.YtnjnhgeafbofkaaDoorF3M
import Derived.Test.YtnjnhgeafbofkaaDoorRegInM
namespace Go.Proofs.YtnjnhgeafbofkaaDoor.Ks
open Go.RowKit Go.Shelf
attribute [local go_sem] Oper.semAt_some
theorem infoField : (Tryd.prog.info? 38).map (fun i => (i.zero, i.size, i.bytes)) = some (some (.agg #[.string ⟨#[]⟩, .string ⟨#[]⟩]), 2, 32) := by kernel_rfl
/-- what a part is read as -/
def fdOf (p : List UInt8) : Fd := (⟨(rdT (Lib.cut p [61]).1).toArray⟩, ⟨(rdT (Lib.cut p [61]).2.1).toArray⟩)
/-- the pairs of some parts -/
def fdsOf (l : List (List UInt8)) : List Fd := (l.filter (fun p => !p.isEmpty)).map fdOf
def paL (l : List UInt8) : List Fd := fdsOf (partsAt 38 l)
def encFs (l : List Fd) : List Value := l.flatMap encF
theorem encFs_len (l : List Fd) : (encFs l).length = l.length * 2 := by
  induction l with
  | nil => rfl
  | cons x l ih => unfold encFs at ih ⊢; rw [List.flatMap_cons, List.length_append, ih]; simp [encF]; omega
theorem encFs_snoc (l : List Fd) (x : Fd) : encFs (l ++ [x]) = encFs l ++ [.string x.1, .string x.2] := by unfold encFs; rw [List.flatMap_append]; simp [encF]
theorem fdsOf_snoc_nil (l : List (List UInt8)) (p : List UInt8) (h : p = []) : fdsOf (l ++ [p]) = fdsOf l := by
  unfold fdsOf; rw [List.filter_append]; simp [h]
theorem fdsOf_snoc (l : List (List UInt8)) (p : List UInt8) (h : p ≠ []) : fdsOf (l ++ [p]) = fdsOf l ++ [fdOf p] := by
  unfold fdsOf
  rw [List.filter_append, List.map_append]
  have : List.filter (fun p => !p.isEmpty) [p] = [p] := by cases p with
    | nil => exact absurd rfl h
    | cons _ _ => rfl
  rw [this]; rfl
abbrev ff (pre : List PL) : List Fd := fdsOf (pre.map Subtype.val)
/-- what Parse answers: ErrMany and nothing, or the pairs, owned -/
def PaRet (w : World) (l : List Fd) (e : Ending) (w' : World) : Prop :=
  (if 256 < l.length then e = .returned (.tuple #[.slice none 0 0, .int .i64 3]) else ∃ v, e = .returned (.tuple #[v, .int .i64 0]) ∧ w'.ownsRow w.heap.size 38 2 v l.length (encFs l)) ∧ Below w.heap.size w w'
section
variable {F : Fence} {n : Nat} {P : Program} {ops : Array Oper} {Q : Exit → Act → World → Prop}
theorem opsIn_cons {i : Nat} {o : Oper} {rest : List Nat} {a : Act} {w : World} (ho : ops[i]? = some o) (hw : Region.wanted o (yielded ops a.tmps) = true) (h : o.wpIn F n P a w (wpOpsIn F n P ops Q rest) Q) : wpOpsIn F n P ops Q (i :: rest) a w := by
  rw [wpOpsIn_cons]
  unfold wpOpIn
  rw [ho]
  simp only [hw, if_true]
  exact h
theorem oper_append_in {o : Oper} {a : Act} {w : World} {K : Act → World → Prop} (s x : Operand) (t : TypeId) (hop : o.op = Op.call { callee := Callee.builtin Builtin.append, args := #[s, x], argTypes := #[t, t] })
    (base : Nat) (e : TypeId) (i : TypeInfo) (z : Value) (size bytes : Nat) (h1 : P.underlying t = some (.slice e)) (h2 : P.info? e = some i) (h3 : i.zero = some z) (h4 : i.size = size) (h5 : i.bytes = bytes) (h6 : z.cells.size = size) (h7 : 0 < size)
    (v : Value) (k : Nat) (xs : List Value) (hs : a.eval s = v) (hown : w.ownsRow base e size v k xs) (ad : Addr) (m c : Nat) (news : List Value) (hx : a.eval x = .slice (some ad) m c) (hn : news.length = m * size)
    (hc : ∀ j u, news[j]? = some u → w.cell? (ad.add j) = some u) (h1c : ∀ u ∈ news, u.oneCell' = true) (b1 : k + m ≤ maxLen) (b2 : (k + m) * bytes ≤ 140737488355328) (b3 : base ≤ w.heap.size)
    (hK : ∀ v' w', w'.ownsRow base e size v' (k + m) (xs ++ news) → w.grownBy w' v.ownBlock → K (a.put o.dst v') w') : o.wpIn F n P a w K Q := by
  obtain ⟨v', w', hrun, r1, r2, r3⟩ := run_append_own (P := P) w base t o.type e i z size bytes h1 h2 h3 h4 h5 h6 h7 v k xs hown ad m c news hn hc h1c b1 b2 b3
  unfold Oper.wpIn
  refine ⟨?_, ?_⟩
  · simp [Oper.about, hop, resolve, Target.leads, Sem.run_pure]
  · rw [Oper.semAt_plain F _ _ (by rw [hop]; intro c hc'; cases hc')]
    simp [execOp, hop, resolve, invoke, builtin, hs, hx, hrun, Result.andThen, Oper.uponIn]
    exact hK _ _ r1 r2
end
theorem keeps_below {W w1 : World} (hb : Below W.heap.size W w1) : KeepsOthers W w1 := ⟨hb.size, fun k _ h _ => (hb.block k (Array.getElem?_eq_some_iff.1 h).1).trans h⟩
theorem own_to {w w' : World} {B : Nat} {v : Value} {e : TypeId} {size n : Nat} {xs : List Value} (h : w.ownsRow B e size v n xs) (hb : Below w.heap.size w w') : w'.ownsRow B e size v n xs := by
  refine ⟨h.1, ?_⟩
  rcases h.2 with hn | ⟨g, cap, cur, rfl, hB, hg, rest⟩
  · exact .inl hn
  · exact .inr ⟨g, cap, cur, rfl, hB, (hb.block g (Array.getElem?_eq_some_iff.1 hg).1).trans hg, rest⟩
theorem Boxed.to {w w' : World} {b : Nat} {t : TypeId} {v : Value} (h : Boxed w b t v) (hb : Below w.heap.size w w') : Boxed w' b t v := (hb.block b h.lt).trans h
theorem appended0 {W w1 : World} {n₀ B : Nat} {t e : TypeId} {size : Nat} {v v' : Value} {k m : Nat} {xs ys : List Value}
    (hv : Boxed W B t v) (hte : t ≠ e) (hrow : W.ownsRow n₀ e size v k xs) (hn₀ : n₀ ≤ W.heap.size) (hB : n₀ ≤ B)
    (hown' : w1.ownsRow n₀ e size v' m ys) (hgrow : W.grownBy w1 v.ownBlock) :
    Boxed w1 B t v ∧ Boxed (w1.setCell ⟨B, 0, none⟩ v') B t v' ∧ (w1.setCell ⟨B, 0, none⟩ v').ownsRow n₀ e size v' m ys ∧ KeepsOthers W (w1.setCell ⟨B, 0, none⟩ v') ∧ Below n₀ W (w1.setCell ⟨B, 0, none⟩ v') := by
  have hv1 : Boxed w1 B t v := hv.kept hgrow (hv.not_row hte hrow)
  refine ⟨hv1, hv1.set v', hown'.kept (grownBy_setCell' w1 B v') (.inr (hv1.not_row hte hown').symm), ?_, ?_⟩
  · refine (KeepsOthers.of_grownBy hgrow fun j o ej hj => ?_).trans (KeepsOthers.setCell _ _ _)
    rcases hrow.2 with ⟨rfl, _⟩ | ⟨g, cap, cur, rfl, _, hgb, _⟩
    · simp [Value.ownBlock] at ej
    · obtain rfl : g = j := by simpa [Value.ownBlock] using ej
      rw [hgb] at hj; cases hj; rfl
  · refine ((Below.refl n₀ W).grown hgrow hn₀ fun j ej => ?_).setCell (p := ⟨B, 0, none⟩) hB v'
    rcases hrow.2 with ⟨rfl, _⟩ | ⟨g, cap, cur, rfl, hb, _, _⟩
    · simp [Value.ownBlock] at ej
    · obtain rfl : g = j := by simpa [Value.ownBlock] using ej
      exact hb
/-- a row of the call's own, as a slice -/
theorem own_slice {w : World} {B : Nat} {e : TypeId} {size n : Nat} {v : Value} {xs : List Value} (h : w.ownsRow B e size v n xs) : ∃ q cc, v = .slice q n cc := by
  rcases h.2 with ⟨rfl, rfl⟩ | ⟨g, cap, cur, rfl, _⟩
  · exact ⟨_, _, rfl⟩
  · exact ⟨_, _, rfl⟩
theorem cut_len (s sep : List UInt8) : (Lib.cut s sep).1.length ≤ s.length ∧ (Lib.cut s sep).2.1.length ≤ s.length := by
  unfold Lib.cut
  split
  · simp only [List.length_take, List.length_drop]; omega
  · simp
/-- what the operations of the round's region yield -/
def VP (v : Value) (A B : ByteArray) (A' B' : List UInt8) (i : Nat) (x : Value) (w : World) : Prop :=
  match i with
  | 0 => x = v
  | 1 => x = .string A
  | 2 => x = .string ⟨A'.toArray⟩
  | 3 => x = .string B
  | 4 => x = .string ⟨B'.toArray⟩
  | 5 => x = .agg #[.string ⟨A'.toArray⟩, .string ⟨B'.toArray⟩]
  | _ => ∃ g, x = .slice (some ⟨g, 0, none⟩) 1 1 ∧ w.heap[g]? = some (.cells #[.string ⟨A'.toArray⟩, .string ⟨B'.toArray⟩] 38 (0, 0))
theorem VP_mono (v : Value) (A B : ByteArray) (A' B' : List UInt8) : ∀ (i : Nat) (x : Value) (w w' : World), VP v A B A' B' i x w → Below w.heap.size w w' → VP v A B A' B' i x w'
  | 0, _, _, _, h, _ => h
  | 1, _, _, _, h, _ => h
  | 2, _, _, _, h, _ => h
  | 3, _, _, _, h, _ => h
  | 4, _, _, _, h, _ => h
  | 5, _, _, _, h, _ => h
  | _ + 6, _, _, _, ⟨g, h1, h2⟩, hb => ⟨g, h1, (hb.block g (Array.getElem?_eq_some_iff.1 h2).1).trans h2⟩
set_option maxRecDepth 100000 in
set_option maxHeartbeats 8000000 in
theorem parse_box (n : Nat) (hn : 6 ≤ n) (u : ByteArray) (hu : u.size ≤ 65536) (w : World) (hM : ML w) :
    CallsIn Fence.wide n Tryd.prog 11 #[.string u] w (PaRet w (paL u.data.toList)) := by
  have h1 : 1 ≤ n := by omega
  obtain ⟨i0, hi, hz0, hz1, hz2⟩ := info_parts infoField
  have HM := Lib.hid hM
  clear hM
  refine callsIn_of_wp_marks Tryd.func11 rfl trivial ?_ rfl
  simp only [Tryd.ntmps11, List.size_toArray, List.length_cons, List.length_nil, Nat.reduceAdd, Nat.reduceSub, Array.replicate_succ, Array.replicate_zero, List.push_toArray, List.append_toArray, List.nil_append, List.cons_append]
  have g1 : decide ((65536 : Int) < (u.size : Int)) = false := by simp; omega
  gi_wp2_with (refine ⟨trivial, ?_⟩; gi_at_call 29; refine (splitseq_in (n - 1) _ _).mono ?_; rintro e w' ⟨rfl, rfl⟩)
  obtain ⟨w2, hw2⟩ : ∃ w2, w2 = ((w.alloc (.cells #[.slice none 0 0] 22)).alloc (.cells #[.int .i64 0] 23)).alloc (.cells #[.slice none 0 0] 22) := ⟨_, rfl⟩
  have z2 : w2.heap.size = w.heap.size + 1 + 1 + 1 := by rw [hw2]; simp
  have b0 : Boxed w2 w.heap.size 22 (.slice none 0 0) := by rw [hw2]; exact ((Boxed.new w 22 _).alloc _).alloc _
  have b1 : Boxed w2 (w.heap.size + 1) 23 (.int .i64 0) := by rw [hw2]; have := (Boxed.new (w.alloc (.cells #[.slice none 0 0] 22)) 23 (.int .i64 0)).alloc (.cells #[.slice none 0 0] 22); simpa using this
  have b2 : Boxed w2 (w.heap.size + 1 + 1) 22 (.slice none 0 0) := by rw [hw2]; have := Boxed.new ((w.alloc (.cells #[.slice none 0 0] 22)).alloc (.cells #[.int .i64 0] 23)) 22 (.slice none 0 0); simpa using this
  have hB2 : Below w.heap.size w w2 := by rw [hw2]; exact (((Below.refl _ w).alloc (Nat.le_refl _) _).alloc (by simp) _).alloc (by simp; omega) _
  rw [← hw2]
  clear hw2
  obtain ⟨w3, hw3⟩ : ∃ w3, w3 = ((w2.alloc (.cells #[.string u] 9)).alloc (.cells #[.string ⟨#[38]⟩] 9)).alloc (.cells #[.int .i64 0] 3) := ⟨_, rfl⟩
  have bS : Boxed w3 (w.heap.size + 1 + 1 + 1) 9 (.string u) := by rw [hw3, ← z2]; exact ((Boxed.new w2 9 _).alloc _).alloc _
  have bE : Boxed w3 (w.heap.size + 1 + 1 + 1 + 1) 9 (.string ⟨#[38]⟩) := by rw [hw3, ← z2]; have := (Boxed.new (w2.alloc (.cells #[.string u] 9)) 9 (.string ⟨#[38]⟩)).alloc (.cells #[.int .i64 0] 3); simpa using this
  have bV : Boxed w3 (w.heap.size + 1 + 1 + 1 + 2) 3 (.int .i64 0) := by rw [hw3, ← z2]; have := Boxed.new ((w2.alloc (.cells #[.string u] 9)).alloc (.cells #[.string ⟨#[38]⟩] 9)) 3 (.int .i64 0); simpa using this
  have c0 : Boxed w3 w.heap.size 22 (.slice none 0 0) := by rw [hw3]; exact ((b0.alloc _).alloc _).alloc _
  have c1 : Boxed w3 (w.heap.size + 1) 23 (.int .i64 0) := by rw [hw3]; exact ((b1.alloc _).alloc _).alloc _
  have c2 : Boxed w3 (w.heap.size + 1 + 1) 22 (.slice none 0 0) := by rw [hw3]; exact ((b2.alloc _).alloc _).alloc _
  have hB3 : Below w.heap.size w w3 := by rw [hw3]; exact ((hB2.alloc (by omega) _).alloc (by simp; omega) _).alloc (by simp; omega) _
  have z3 : w3.heap.size = w.heap.size + 6 := by rw [hw3]; simp; omega
  rw [← hw3]
  clear hw3 b0 b1 b2 hB2 z2
  refine wpIn_rangeFunc_box rfl h1 (gf := 71) (lb := #[.pointer (some ⟨w.heap.size + 1 + 1 + 1 + 1, 0, none⟩), .pointer (some ⟨w.heap.size + 1 + 1 + 1, 0, none⟩), .pointer (some ⟨w.heap.size + 1 + 1 + 1 + 2, 0, none⟩)]) rfl trivial (enters_of Tryd.func71 (by kernel_rfl) rfl) (bx := w.heap.size + 1 + 1 + 1) (ks := [w.heap.size + 1 + 1 + 1, w.heap.size + 1 + 1 + 1 + 1, w.heap.size + 1 + 1 + 1 + 2]) (by simp; omega) (by simp)
    (iter_col (n - 1) (by omega) _ _ _ u hu w3 bS bE bV (by omega)) (fun _ => rfl)
    (fun pre W => (∃ v, Boxed W (w.heap.size + 1 + 1) 22 v ∧ W.ownsRow w.heap.size 38 2 v (ff pre).length (encFs (ff pre)) ∧ True) ∧ Below w.heap.size w W ∧ Boxed W w.heap.size 22 (.slice none 0 0) ∧ Boxed W (w.heap.size + 1) 23 (.int .i64 0) ∧ TextBox 9 (w.heap.size + 1 + 1 + 1) W ∧ Boxed W (w.heap.size + 1 + 1 + 1 + 1) 9 (.string ⟨#[38]⟩) ∧ Boxed W (w.heap.size + 1 + 1 + 1 + 2) 3 (.int .i64 0) ∧ ((ff pre).length ≤ 256))
    (fun c pre W => Below w.heap.size w W ∧ Boxed W w.heap.size 22 (.slice none 0 0) ∧ Boxed W (w.heap.size + 1) 23 (.int .i64 3) ∧ (c = .ret ∧ 256 < (ff pre).length))
    (OwnBox.and (holdsRow_box w.heap.size _ (w.heap.size + 1 + 1 + 1) (w.heap.size + 1 + 1) 22 38 9 (by decide) (by decide) 2 (fun (pre : List PL) => (ff pre).length) (fun pre => encFs (ff pre)) (fun _ _ => True)) (OwnBox.and (ownBox_below (Nat.le_refl _) (by omega) (by omega)) (OwnBox.and (ownBox_boxed (by omega)) (OwnBox.and (ownBox_boxed (by omega)) (OwnBox.and ownBox_text (OwnBox.and (ownBox_boxed (by omega)) (OwnBox.and (ownBox_boxed (by omega)) (ownBox_pure _))))))))
    (fun c => OwnBox.and (ownBox_below (Nat.le_refl _) (by omega) (by omega)) (OwnBox.and (ownBox_boxed (by omega)) (OwnBox.and (ownBox_boxed (by omega)) (ownBox_pure _))))
    ⟨⟨_, c2, World.ownsRow_nil _ _ _ _, trivial⟩, hB3, c0, c1, ⟨u, bS⟩, bE, bV, by simp [ff, fdsOf]⟩
    (fun x => { tmps := #[.string u, undef, .pointer (some ⟨w.heap.size, 0, none⟩), .pointer (some ⟨w.heap.size + 1, 0, none⟩), .pointer (some ⟨w.heap.size + 1 + 1, 0, none⟩), .string ⟨x.1.toArray⟩, undef, undef, undef, .string u, .int .i64 u.size, .bool false, .string u, .func (.func 71) #[] #[.pointer (some ⟨w.heap.size + 1 + 1 + 1 + 1, 0, none⟩), .pointer (some ⟨w.heap.size + 1 + 1 + 1, 0, none⟩), .pointer (some ⟨w.heap.size + 1 + 1 + 1 + 2, 0, none⟩)], .string ⟨x.1.toArray⟩, undef, undef, undef, undef, undef, undef, undef, undef, undef, undef, undef, undef, undef, undef, undef, undef, undef, undef, undef, undef], defers := [] }) ?assign ?body ?done ?stop
  case assign =>
    intro l x W K hK
    unfold encS
    gi_wp2_with fail
    exact hK
  case body =>
    rintro l pre x W ⟨⟨v, hv, hrow, _⟩, hB, h0, h1', ⟨tx, htx⟩, hE, hV, hok⟩ hlt
    obtain ⟨y, hy⟩ : ∃ y : ByteArray, y = ⟨x.1.toArray⟩ := ⟨_, rfl⟩
    have hyl : y.data.toList = x.1 := by rw [hy]
    rw [← hy]
    have HY := Lib.hid hyl
    have hys : y.size ≤ 65536 := by rw [← len_list, hyl]; exact x.2
    have HX := Lib.hid (And.intro hrow (And.intro htx (And.intro hE (And.intro hV hok))))
    have HB := Lib.hid hB
    have HV := Lib.hid hv
    have H0 := Lib.hid h0
    have H1 := Lib.hid h1'
    have hMW := HM.out.to hB
    have HMW := Lib.hid hMW
    have hsz := hB.size
    have hfl : pre.map Subtype.val ++ [x.1] = (pre ++ [x]).map Subtype.val := by simp
    by_cases hx : x.1 = []
    · have hemp : y.toList.isEmpty = true := by rw [ByteArray.toList_eq, hyl, hx]; rfl
      have HF := Lib.hid (show ff (pre ++ [x]) = ff pre by unfold ff; rw [← hfl]; exact fdsOf_snoc_nil _ _ hx)
      clear hy hyl hrow htx hE hV hok hB hv h0 h1' hx hfl hMW
      gi_wp2_with fail
      obtain ⟨hrow, htx, hE, hV, hok⟩ := HX.out
      exact ⟨KeepsOthers.refl _, fun _ _ => rfl, ⟨v, HV.out, by rw [HF.out]; exact hrow, trivial⟩, HB.out, H0.out, H1.out, ⟨tx, htx⟩, hE, hV, by rw [HF.out]; exact hok⟩
    · have hemp : y.toList.isEmpty = false := by
        rw [ByteArray.toList_eq, hyl]
        cases h : x.1 with
        | nil => exact absurd h hx
        | cons _ _ => rfl
      have hFF : ff (pre ++ [x]) = ff pre ++ [fdOf x.1] := by unfold ff; rw [← hfl]; exact fdsOf_snoc _ _ hx
      have HF := Lib.hid hFF
      obtain ⟨q, cc, rfl⟩ := own_slice hrow
      have hvc := hv.cell
      have hkl : Lib.hid hok = Lib.hid hok := rfl
      obtain ⟨k, hk⟩ : ∃ k, (ff pre).length = k := ⟨_, rfl⟩
      have HK := Lib.hid hk
      rw [hk] at hvc hok
      by_cases h256 : k = 256
      · have g2 : ((k : Int) == 256) = true := by rw [h256]; rfl
        have d0 := h0.cell
        have e0 := h0.frozen
        have d1 := h1'.cell
        have e1 := h1'.frozen
        clear hy hyl hrow htx hE hV hB hv h0 h1' hx hfl hMW hFF hkl
        clear hk
        gi_wp2_with fail
        have k0 := H0.out
        have k1 := H1.out
        have s0 : Boxed ((W.setCell ⟨w.heap.size, 0, none⟩ (.slice none 0 0)).setCell ⟨w.heap.size + 1, 0, none⟩ (.int .i64 3)) w.heap.size 22 (.slice none 0 0) := (Below.heap_setCell _ _ _ _ (by simp)).trans (k0.set _)
        have s1 : Boxed ((W.setCell ⟨w.heap.size, 0, none⟩ (.slice none 0 0)).setCell ⟨w.heap.size + 1, 0, none⟩ (.int .i64 3)) (w.heap.size + 1) 23 (.int .i64 3) := by
          have : Boxed (W.setCell ⟨w.heap.size, 0, none⟩ (.slice none 0 0)) (w.heap.size + 1) 23 (.int .i64 0) := (Below.heap_setCell _ _ _ _ (by simp)).trans k1
          exact this.set _
        have sb : Below w.heap.size w ((W.setCell ⟨w.heap.size, 0, none⟩ (.slice none 0 0)).setCell ⟨w.heap.size + 1, 0, none⟩ (.int .i64 3)) := (HB.out.setCell (p := ⟨w.heap.size, 0, none⟩) (Nat.le_refl _) _).setCell (p := ⟨w.heap.size + 1, 0, none⟩) (by simp) _
        exact ⟨(KeepsOthers.setCell _ _ _).trans (KeepsOthers.setCell _ _ _), sb, s0, s1, rfl, by rw [HF.out, List.length_append, HK.out, h256]; simp⟩
      · have g2 : ((k : Int) == 256) = false := by rw [beq_eq_false_iff_ne]; omega
        obtain ⟨m, hm⟩ := hMW
        have hC := Tryd.strings_Cut y ⟨#[61]⟩ m W (by omega) hm
        obtain ⟨A, hA⟩ : ∃ A : ByteArray, A = ⟨(Lib.cut y.data.toList [61]).1.toArray⟩ := ⟨_, rfl⟩
        obtain ⟨B, hBB⟩ : ∃ B : ByteArray, B = ⟨(Lib.cut y.data.toList [61]).2.1.toArray⟩ := ⟨_, rfl⟩
        have HC := Lib.hid (show Calls Tryd.prog 30 #[.string y, .string ⟨#[61]⟩] W fun e w' => (∃ b, e = .returned (.tuple #[.string A, .string B, .bool b])) ∧ ∃ n, w' = W.drewN n from by
          rw [hA, hBB]; exact hC.mono fun e w' ⟨h1, h2⟩ => ⟨⟨_, h1⟩, h2⟩)
        have hAs : A.size ≤ 65536 := by rw [hA]; show (Lib.cut y.data.toList [61]).1.toArray.size ≤ _; have := (cut_len y.data.toList [61]).1; rw [len_list] at this; simp; omega
        have hBs : B.size ≤ 65536 := by rw [hBB]; show (Lib.cut y.data.toList [61]).2.1.toArray.size ≤ _; have := (cut_len y.data.toList [61]).2; rw [len_list] at this; simp; omega
        have HFD := Lib.hid (show fdOf x.1 = (⟨(rdT A.data.toList).toArray⟩, ⟨(rdT B.data.toList).toArray⟩) by rw [hA, hBB, hyl]; rfl)
        obtain ⟨A', hA'⟩ : ∃ A', rdT A.data.toList = A' := ⟨_, rfl⟩
        obtain ⟨B', hB'⟩ : ∃ B', rdT B.data.toList = B' := ⟨_, rfl⟩
        rw [hA', hB'] at HFD
        have HRA := Lib.hid (fun (w : World) (h : ML w) => read_is A A' hA' hAs w h)
        have HRB := Lib.hid (fun (w : World) (h : ML w) => read_is B B' hB' hBs w h)
        clear hy hyl hrow htx hE hV hB hv h0 h1' hx hfl hFF hkl hC hm hA hBB hA' hB'
        clear hk
        gi_wp2_with fail
        refine ⟨trivial, fun _ => by omega, ?_⟩
        refine (callsIn_wide.2 HC.out).mono ?_
        rintro e w4 ⟨⟨bb, rfl⟩, nn, rfl⟩
        gi_wp2_with fail
        refine wpIn_region_tail (by kernel_rfl) 7 (by decide) (fun i => 26 + i) (VP (.slice q k cc) A B A' B') (fun w' => Below W.heap.size (W.drewN nn) w') ?hlt ?hinj (by kernel_rfl) (by kernel_rfl) (VP_mono _ A B A' B') (fun _ _ h h' => h.trans (h'.mono h.size)) ?h0 ?hop ?htail
        case hlt => intro i hi; simp only [List.size_toArray, List.length_cons, List.length_nil]; omega
        case hinj => intro i j _ _ h; simpa using h
        case h0 => exact Below.drew (Below.refl _ _)
        case hop =>
          intro i o hi ho a w' hF hg hd
          have hcase : i = 0 ∨ i = 1 ∨ i = 2 ∨ i = 3 ∨ i = 4 ∨ i = 5 ∨ i = 6 := by omega
          have h4 : a.eval (.tmp 4) = .pointer (some ⟨w.heap.size + 1 + 1, 0, none⟩) := (hF.2.2 4 (fun i _ => by show 26 + i ≠ 4; omega)).trans rfl
          have h6 : a.eval (.tmp 6) = .string A := (hF.2.2 6 (fun i _ => by show 26 + i ≠ 6; omega)).trans rfl
          have h7 : a.eval (.tmp 7) = .string B := (hF.2.2 7 (fun i _ => by show 26 + i ≠ 7; omega)).trans rfl
          have hbw : Below W.heap.size W w' := (below_dn (Below.refl _ W) nn).trans hg
          have hvc' : w'.cell? ⟨w.heap.size + 1 + 1, 0, none⟩ = some (.slice q k cc) := (hbw.cell (p := ⟨w.heap.size + 1 + 1, 0, none⟩) (by have := HV.out.lt; exact this)).trans hvc
          have hMw := HMW.out.to hbw
          have HD0 := Lib.hid hd
          clear hd hF hbw
          rcases hcase with rfl | rfl | rfl | rfl | rfl | rfl | rfl
          all_goals
            simp only [List.getElem?_toArray, List.getElem?_cons_zero, List.getElem?_cons_succ, Option.some.injEq] at ho
            subst ho
            have hd := HD0.out
            simp [Region.binds, VP] at hd
            refine ⟨rfl, ?_⟩
            unfold Oper.wpIn
          · refine ⟨fun _ _ => trivial, ?_⟩
            rw [Oper.semAt_plain (Fence.wide.inRound l) _ _ (by intro c hc'; cases hc')]
            simp [execOp, h4]
            simp [go_sem, hvc']
            exact ⟨_, rfl, rfl, Below.refl _ _⟩
          · refine ⟨fun _ _ => trivial, ?_⟩
            rw [Oper.semAt_plain (Fence.wide.inRound l) _ _ (by intro c hc'; cases hc')]
            simp [execOp, h6, Oper.uponIn]
            exact ⟨_, rfl, rfl, Below.refl _ _⟩
          · refine ⟨fun _ _ => trivial, ?_⟩
            rw [Oper.semAt_plain (Fence.wide.inRound l) _ _ (by intro c hc'; cases hc')]
            simp [execOp, resolve, invoke, hd]
            simp [go_sem, Oper.uponIn]
            refine ⟨fun _ => by omega, ?_⟩
            refine (callsIn_wide.2 (HRA.out w' hMw)).mono ?_
            rintro e w3 ⟨rfl, hb3⟩
            exact ⟨_, rfl, rfl, hb3⟩
          · refine ⟨fun _ _ => trivial, ?_⟩
            rw [Oper.semAt_plain (Fence.wide.inRound l) _ _ (by intro c hc'; cases hc')]
            simp [execOp, h7, Oper.uponIn]
            exact ⟨_, rfl, rfl, Below.refl _ _⟩
          · refine ⟨fun _ _ => trivial, ?_⟩
            rw [Oper.semAt_plain (Fence.wide.inRound l) _ _ (by intro c hc'; cases hc')]
            simp [execOp, resolve, invoke, hd.1]
            simp [go_sem, Oper.uponIn]
            refine ⟨fun _ => by omega, ?_⟩
            refine (callsIn_wide.2 (HRB.out w' hMw)).mono ?_
            rintro e w3 ⟨rfl, hb3⟩
            exact ⟨_, rfl, rfl, hb3⟩
          · refine ⟨fun _ _ => trivial, ?_⟩
            rw [Oper.semAt_plain (Fence.wide.inRound l) _ _ (by intro c hc'; cases hc')]
            simp [execOp, hd]
            simp [go_sem, Oper.uponIn]
            exact ⟨_, rfl, rfl, Below.refl _ _⟩
          · refine ⟨fun _ _ => trivial, ?_⟩
            rw [Oper.semAt_plain (Fence.wide.inRound l) _ _ (by intro c hc'; cases hc')]
            simp [execOp, hd]
            simp [go_sem, Oper.uponIn]
            exact ⟨_, rfl, ⟨w'.heap.size, rfl, heap_alloc_new w' _⟩, (Below.refl _ _).alloc (Nat.le_refl _) _⟩
        case htail =>
          intro a w' hF hg hv
          have h4 : a.eval (.tmp 4) = .pointer (some ⟨w.heap.size + 1 + 1, 0, none⟩) := (hF.2.2 4 (fun i _ => by show 26 + i ≠ 4; omega)).trans rfl
          have h26 : a.eval (.tmp 26) = .slice q k cc := hv 0 (by omega)
          obtain ⟨g, h32, hgb⟩ : ∃ g, a.eval (.tmp 32) = .slice (some ⟨g, 0, none⟩) 1 1 ∧ w'.heap[g]? = some (.cells #[.string ⟨A'.toArray⟩, .string ⟨B'.toArray⟩] 38 (0, 0)) := hv 6 (by omega)
          have hbw : Below W.heap.size W w' := (below_dn (Below.refl _ W) nn).trans hg
          have hs' := hbw.size
          obtain ⟨hrow, htx, hE, hV, hok⟩ := HX.out
          rw [HK.out] at hrow
          have hrow' := own_to hrow hbw
          have hvb : Boxed w' (w.heap.size + 1 + 1) 22 (.slice q k cc) := by have := Boxed.to HV.out hbw; rw [HK.out] at this; exact this
          have hsz' : (ByteArray.mk #[]).size = 0 := rfl
          refine opsIn_cons (o := _) rfl rfl ?_
          refine oper_append_in (.tmp 26) (.tmp 32) 22 rfl w.heap.size 38 i0 (.agg #[.string ⟨#[]⟩, .string ⟨#[]⟩]) 2 32 Tryd.underlying22 hi hz0 hz1 hz2 rfl (by decide) (.slice q k cc) k (encFs (ff pre)) h26 hrow' ⟨g, 0, none⟩ 1 1 [.string ⟨A'.toArray⟩, .string ⟨B'.toArray⟩] h32 rfl ?hcell ?hone (by unfold maxLen; omega) (by omega) (by omega) ?hK
          case hcell =>
            intro j u hj
            match j, hj with
            | 0, hj => simp at hj; subst hj; exact cell_of_row _ _ 0 _ _ _ hgb
            | 1, hj => simp at hj; subst hj; exact cell_of_row _ _ 1 _ _ _ hgb
            | j + 2, hj => simp at hj
          case hone => intro u hu; simp at hu; rcases hu with rfl | rfl <;> rfl
          case hK =>
            intro v' w5 hown' hgrow
            obtain ⟨hv1, hv2, hr2, hk2, hb2⟩ := appended0 hvb (by decide) hrow' (by omega) (by omega) hown' hgrow
            obtain ⟨q', cc', rfl⟩ := own_slice hown'
            have hc1 := hv1.cell
            have hf1 := hv1.frozen
            have past : ∀ (j : Nat) (t : TypeId) (c : Value), Boxed W j t c → t ≠ 38 → j ≠ w.heap.size + 1 + 1 → Boxed (w5.setCell ⟨w.heap.size + 1 + 1, 0, none⟩ (.slice q' (k + 1) cc')) j t c := by
              intro j t c hj ht hn
              have hj4 : Boxed w' j t c := Boxed.to hj hbw
              have hj5 : Boxed w5 j t c := hj4.kept hgrow (hj4.not_row ht hrow')
              exact (Below.heap_setCell _ _ _ _ hn).trans hj5
            have htb : Boxed W (w.heap.size + 1 + 1 + 1) 9 (.string tx) := htx
            have p3 := past _ _ _ htb (by decide) (by omega)
            have p4 := past _ _ _ hE (by decide) (by omega)
            have p5 := past _ _ _ hV (by decide) (by omega)
            have p0 := past _ _ _ H0.out (by decide) (by omega)
            have p1 := past _ _ _ H1.out (by decide) (by omega)
            have hlen : (ff (pre ++ [x])).length = k + 1 := by rw [HF.out, List.length_append, HK.out]; rfl
            have henc : encFs (ff (pre ++ [x])) = encFs (ff pre) ++ [.string ⟨A'.toArray⟩, .string ⟨B'.toArray⟩] := by rw [HF.out, encFs_snoc, HFD.out]
            have fin : postBox [w.heap.size + 1 + 1 + 1, w.heap.size + 1 + 1 + 1 + 1, w.heap.size + 1 + 1 + 1 + 2] (fun pre W => (∃ v, Boxed W (w.heap.size + 1 + 1) 22 v ∧ W.ownsRow w.heap.size 38 2 v (ff pre).length (encFs (ff pre)) ∧ True) ∧ Below w.heap.size w W ∧ Boxed W w.heap.size 22 (.slice none 0 0) ∧ Boxed W (w.heap.size + 1) 23 (.int .i64 0) ∧ TextBox 9 (w.heap.size + 1 + 1 + 1) W ∧ Boxed W (w.heap.size + 1 + 1 + 1 + 1) 9 (.string ⟨#[38]⟩) ∧ Boxed W (w.heap.size + 1 + 1 + 1 + 2) 3 (.int .i64 0) ∧ ((ff pre).length ≤ 256)) (fun c pre W => Below w.heap.size w W ∧ Boxed W w.heap.size 22 (.slice none 0 0) ∧ Boxed W (w.heap.size + 1) 23 (.int .i64 3) ∧ (c = .ret ∧ 256 < (ff pre).length)) (pre ++ [x]) W .normal ((a.put (some 33) (.slice q' (k + 1) cc')).put none undef) (w5.setCell ⟨w.heap.size + 1 + 1, 0, none⟩ (.slice q' (k + 1) cc')) := by
              refine ⟨(keeps_below hbw).trans hk2, ?_, ⟨_, hv2, ?_, trivial⟩, (HB.out.trans (hbw.mono HB.out.size)).trans hb2, p0, p1, ⟨tx, p3⟩, p4, p5, by rw [hlen]; omega⟩
              · intro j hj
                simp only [List.mem_cons, List.mem_nil_iff, or_false] at hj
                rcases hj with rfl | rfl | rfl
                · exact Eq.trans p3 htb.symm
                · exact Eq.trans p4 (Eq.symm hE)
                · exact Eq.trans p5 (Eq.symm hV)
              · rw [hlen, henc]; exact hr2
            clear hv1 hv2 hr2 hk2 hb2 p0 p1 p3 p4 p5 past hlen henc
            refine opsIn_cons (o := _) rfl rfl ?_
            unfold Oper.wpIn
            refine ⟨fun _ _ => trivial, ?_⟩
            rw [Oper.semAt_plain (Fence.wide.inRound l) _ _ (by intro c hc'; cases hc')]
            have h4' : (a.put (some 33) (.slice q' (k + 1) cc')).eval (.tmp 4) = .pointer (some ⟨w.heap.size + 1 + 1, 0, none⟩) := by rw [Act.eval_put_ne _ _ _ _ (by decide)]; exact h4
            have h33 : (a.put (some 33) (.slice q' (k + 1) cc')).eval (.tmp 33) = .slice q' (k + 1) cc' := Act.eval_put_same _ _ _ (by rw [hF.1]; simp)
            simp [execOp, h4', h33]
            simp [go_sem, hc1, hf1, Oper.uponIn]
            exact fin
  case done =>
    rintro D ys W hD hys ⟨⟨v, hv, hrow, _⟩, hB, h0, h1', _, _, _, hok⟩ hK
    obtain ⟨q, cc, rfl⟩ := own_slice hrow
    have hp : paL u.data.toList = ff ys := by unfold paL ff; rw [hys]
    have hnot : ¬ 256 < (paL u.data.toList).length := by rw [hp]; omega
    have HP := Lib.hid (And.intro hp hnot)
    clear hp hnot hys
    obtain ⟨k, hk⟩ : ∃ k, (ff ys).length = k := ⟨_, rfl⟩
    rw [hk] at hrow hv
    have HK := Lib.hid hk
    clear hk
    have hc := hv.cell
    have d0 := h0.cell
    have e0 := h0.frozen
    have d1 := h1'.cell
    have e1 := h1'.frozen
    have HX := Lib.hid (And.intro hv (And.intro hrow (And.intro hB (And.intro h0 (And.intro h1' (And.intro hok hK))))))
    clear hv hrow hB h0 h1' hok hK
    gi_wp2_with fail
    obtain ⟨hv, hrow, hB, h0, h1', hok, hK⟩ := HX.out
    have hD2 : w.heap.size + 6 ≤ D := by rw [← z3]; exact hD
    have s0 : Boxed ((W.setCell ⟨w.heap.size, 0, none⟩ (.slice q k cc)).setCell ⟨w.heap.size + 1, 0, none⟩ (.int .i64 0)) w.heap.size 22 (.slice q k cc) := (Below.heap_setCell _ _ _ _ (by simp)).trans (h0.set _)
    have s1 : Boxed ((W.setCell ⟨w.heap.size, 0, none⟩ (.slice q k cc)).setCell ⟨w.heap.size + 1, 0, none⟩ (.int .i64 0)) (w.heap.size + 1) 23 (.int .i64 0) := by
      have : Boxed (W.setCell ⟨w.heap.size, 0, none⟩ (.slice q k cc)) (w.heap.size + 1) 23 (.int .i64 0) := (Below.heap_setCell _ _ _ _ (by simp)).trans h1'
      exact this.set _
    have sb : Below w.heap.size w ((W.setCell ⟨w.heap.size, 0, none⟩ (.slice q k cc)).setCell ⟨w.heap.size + 1, 0, none⟩ (.int .i64 0)) := (hB.setCell (p := ⟨w.heap.size, 0, none⟩) (Nat.le_refl _) _).setCell (p := ⟨w.heap.size + 1, 0, none⟩) (by simp) _
    have sr : ((W.setCell ⟨w.heap.size, 0, none⟩ (.slice q k cc)).setCell ⟨w.heap.size + 1, 0, none⟩ (.int .i64 0)).ownsRow w.heap.size 38 2 (.slice q k cc) k (encFs (ff ys)) := by
      have r1 := hrow.kept (grownBy_setCell' W w.heap.size (.slice q k cc)) (.inr (h0.not_row (by decide) hrow).symm)
      have h1s : Boxed (W.setCell ⟨w.heap.size, 0, none⟩ (.slice q k cc)) (w.heap.size + 1) 23 (.int .i64 0) := (Below.heap_setCell _ _ _ _ (by simp)).trans h1'
      exact r1.kept (grownBy_setCell' _ (w.heap.size + 1) (.int .i64 0)) (.inr (h1s.not_row (by decide) r1).symm)
    have sK : ((W.setCell ⟨w.heap.size, 0, none⟩ (.slice q k cc)).setCell ⟨w.heap.size + 1, 0, none⟩ (.int .i64 0)).heap[D]? = some (.deferred (some [])) := (Below.heap_setCell _ _ _ _ (by simp; omega)).trans ((Below.heap_setCell _ _ _ _ (by simp; omega)).trans hK)
    clear hv hrow hB h0 h1' hK
    generalize (W.setCell ⟨w.heap.size, 0, none⟩ (.slice q k cc)).setCell ⟨w.heap.size + 1, 0, none⟩ (.int .i64 0) = X at *
    refine ⟨by simp, .inl ⟨_, _, rfl, run_takeDeferred sK, ?_⟩⟩
    have t0 : Boxed (X.putObj D (.deferred none)) w.heap.size 22 (.slice q k cc) := (World.putObj_heap_other (by omega)).trans s0
    have t1 : Boxed (X.putObj D (.deferred none)) (w.heap.size + 1) 23 (.int .i64 0) := (World.putObj_heap_other (by omega)).trans s1
    have u0 := t0.cell
    have u1 := t1.cell
    refine ⟨.tuple #[.slice q k cc, .int .i64 0], ?_, ?_⟩
    · simp [results, Tryd.results11, go_sem, u0, u1]
    · refine ⟨?_, sb.trans (belowK_b (w := w) (Nat.le_refl _) X D _ _ (by omega) sK rfl rfl)⟩
      rw [if_neg HP.out.2]
      refine ⟨_, rfl, ?_⟩
      have := ownsRow_putObj sr (.deferred none) sK rfl
      rw [HP.out.1, HK.out]
      exact this
  case stop =>
    rintro D c pre W hD hSp ⟨hB, h0, h1', rfl, hp⟩ hK
    have d0 := h0.cell
    have d1 := h1'.cell
    have HX := Lib.hid (And.intro hB (And.intro h0 (And.intro h1' (And.intro hSp (And.intro hp hK)))))
    clear hB h0 h1' hSp hp hK
    gi_wp2_with fail
    obtain ⟨hB, h0, h1', hSp, hp, hK⟩ := HX.out
    have hD2 : w.heap.size + 6 ≤ D := by rw [← z3]; exact hD
    refine ⟨by simp, .inl ⟨_, _, rfl, run_takeDeferred hK, ?_⟩⟩
    have t0 : Boxed (W.putObj D (.deferred none)) w.heap.size 22 (.slice none 0 0) := (World.putObj_heap_other (by omega)).trans h0
    have t1 : Boxed (W.putObj D (.deferred none)) (w.heap.size + 1) 23 (.int .i64 3) := (World.putObj_heap_other (by omega)).trans h1'
    have u0 := t0.cell
    have u1 := t1.cell
    refine ⟨.tuple #[.slice none 0 0, .int .i64 3], ?_, ?_⟩
    · simp [results, Tryd.results11, go_sem, u0, u1]
    · refine ⟨?_, hB.trans (belowK_b (w := w) (Nat.le_refl _) W D _ _ (by omega) hK rfl rfl)⟩
      rw [if_pos]
      have h1 : (ff pre).length ≤ (paL u.data.toList).length := by
        obtain ⟨t, ht⟩ := hSp
        unfold paL ff fdsOf
        rw [← ht, List.filter_append, List.map_append, List.length_append]
        omega
      omega
set_option maxHeartbeats 1000000 in
theorem parse_long (u : ByteArray) (hu : 65536 < u.size) (hm : u.size ≤ 281474976710656) (w : World) :
    Calls Tryd.prog 11 #[.string u] w fun e w' => e = .returned (.tuple #[.slice none 0 0, .int .i64 4]) ∧ Below w.heap.size w w' := by
  have g1 : decide ((65536 : Int) < (u.size : Int)) = true := by simp; omega
  have b0 : (w.alloc (.cells #[.slice none 0 0] 22)).cell? ⟨w.heap.size, 0, none⟩ = some (.slice none 0 0) := cell_of_row _ _ 0 _ _ _ (heap_alloc_new w _)
  go_enter Tryd.func11, Tryd.ntmps11
  go_wp2
  refine bodyPost_ret (v := .tuple #[.slice none 0 0, .int .i64 4]) (by simp [results, Tryd.results11, go_sem]) rfl ⟨rfl, ?_⟩
  exact ((Below.refl _ w).alloc (Nat.le_refl _) _).alloc (by simp) _
theorem parse_is (u : ByteArray) (hu : u.size ≤ 65536) (w : World) (hM : ML w) : Calls Tryd.prog 11 #[.string u] w (PaRet w (paL u.data.toList)) :=
  (callsIn_wide (n := 6)).1 (parse_box 6 (Nat.le_refl _) u hu w hM)
end Go.Proofs.YtnjnhgeafbofkaaDoor.Ks
