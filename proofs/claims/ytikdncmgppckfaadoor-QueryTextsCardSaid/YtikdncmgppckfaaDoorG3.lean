import Derived.Test.YtikdncmgppckfaaDoorG2
import Derived.Lib.SliceRun
/-
  Rows of pairs, cell by cell; the contracts of slices.Clone and slices.DeleteFunc (with the predicate of a name) at pairs.
-/
namespace Go.Proofs.YtikdncmgppckfaaDoor
open Go.RowKit
theorem encFs_set : ∀ (D : List Fd) (rest : List Value) (i : Nat) (x : Fd), i < D.length → ((encFs D ++ rest).set (i * 2) (.string x.1)).set (i * 2 + 1) (.string x.2) = encFs (D.set i x) ++ rest
  | [], _, i, _, h => by simp at h
  | y :: D, rest, 0, x, _ => rfl
  | y :: D, rest, i + 1, x, h => by
    have ih := encFs_set D rest i x (by simpa using h)
    have e : encFs (y :: D) ++ rest = .string y.1 :: .string y.2 :: (encFs D ++ rest) := rfl
    have e2 : encFs ((y :: D).set (i + 1) x) ++ rest = .string y.1 :: .string y.2 :: (encFs (D.set i x) ++ rest) := rfl
    rw [e, e2, show (i + 1) * 2 = i * 2 + 1 + 1 by omega, List.set_cons_succ, List.set_cons_succ, List.set_cons_succ, List.set_cons_succ, ih]
def RowF (w : World) (g : Nat) (rest : List Value) (D : List Fd) : Prop := Has w g (.cells (encFs D ++ rest).toArray 38)
section
variable {w w' : World} {g : Nat} {rest : List Value} {D : List Fd}
theorem RowF.c0 (h : RowF w g rest D) {i : Nat} {x : Fd} (hx : D[i]? = some x) : w.cell? ⟨g, i * 2, none⟩ = some (.string x.1) := Has.cell h _ (by rw [List.getElem?_toArray]; exact (encFs_at D rest i x hx).1)
theorem RowF.c1 (h : RowF w g rest D) {i : Nat} {x : Fd} (hx : D[i]? = some x) : w.cell? ⟨g, i * 2 + 1, none⟩ = some (.string x.2) := Has.cell h _ (by rw [List.getElem?_toArray]; exact (encFs_at D rest i x hx).2)
theorem RowF.f (h : RowF w g rest D) (i : Nat) : w.frozen? ⟨g, i, none⟩ = false := Has.free h i
theorem RowF.store (h : RowF w g rest D) {i : Nat} (hi : i < D.length) (x : Fd) : RowF ((w.setCell ⟨g, i * 2, none⟩ (.string x.1)).setCell ⟨g, i * 2 + 1, none⟩ (.string x.2)) g rest (D.set i x) := by
  have := (Has.set h (i * 2) (.string x.1)).set (i * 2 + 1) (.string x.2)
  unfold RowF
  rw [← encFs_set D rest i x hi]
  simpa using this
theorem RowF.to (h : RowF w g rest D) (hb : Below w.heap.size w w') : RowF w' g rest D := Has.to h hb
theorem RowF.lt (h : RowF w g rest D) : g < w.heap.size := Has.lt h
end
theorem bel_set2 {B g : Nat} {w w' : World} (h : Below B w w') (hg : B ≤ g) (i0 i1 : Nat) (v0 v1 : Value) : Below B w ((w'.setCell ⟨g, i0, none⟩ v0).setCell ⟨g, i1, none⟩ v1) :=
  (h.setCell (p := ⟨g, i0, none⟩) hg _).setCell (p := ⟨g, i1, none⟩) hg _
theorem encFs_take (D : List Fd) (rest : List Value) (k : Nat) (hk : k ≤ D.length) : (encFs D ++ rest).take (k * 2) = encFs (D.take k) := by
  have e : encFs D = encFs (D.take k) ++ encFs (D.drop k) := by rw [← encFs_app, List.take_append_drop]
  rw [e, List.append_assoc]
  have hl : (encFs (D.take k)).length = k * 2 := by rw [Ks.encFs_len, List.length_take_of_le hk]
  rw [← hl]; exact List.take_left
/-- a row of the call's own, cell by cell -/
theorem OwnF.row {w : World} {B : Nat} {q : Option Addr} {n cap : Nat} {l : List Fd} (h : OwnF w B (.slice q n cap) l) (h0 : 0 < l.length) : ∃ g rest, q = some ⟨g, 0, none⟩ ∧ n = l.length ∧ B ≤ g ∧ RowF w g rest l ∧ l.length ≤ cap ∧ cap ≤ maxLen ∧ (encFs l ++ rest).length = cap * 2 := by
  rcases h.2 with ⟨_, hn⟩ | ⟨g, cap', cur, e, hB, hg, hc, hm, hs, ht⟩
  · omega
  · simp only [Value.slice.injEq] at e
    obtain ⟨rfl, rfl, rfl⟩ := e
    have e2 : encFs l ++ cur.toList.drop (l.length * 2) = cur.toList := by rw [← ht, List.take_append_drop]
    refine ⟨g, cur.toList.drop (l.length * 2), rfl, rfl, hB, ?_, hc, hm, ?_⟩
    · unfold RowF; rw [e2]; exact hg
    · rw [e2, Array.length_toList, hs]
theorem RowF.own {w : World} {g : Nat} {rest : List Value} {D : List Fd} (h : RowF w g rest D) {B k cap : Nat} (hB : B ≤ g) (hk : k ≤ D.length) (hD : D.length ≤ cap) (hm : cap ≤ maxLen) (hs : (encFs D ++ rest).length = cap * 2) : OwnF w B (.slice (some ⟨g, 0, none⟩) k cap) (D.take k) := by
  have hl : (D.take k).length = k := List.length_take_of_le hk
  refine ⟨Ks.encFs_len _, .inr ⟨g, cap, _, by rw [hl], hB, h, by rw [hl]; omega, hm, by simpa using hs, ?_⟩⟩
  rw [hl]
  exact encFs_take D rest k hk
theorem lst_news {w : World} {ad : Addr} {n cap : Nat} {l : List Fd} (h : Lst w (.slice (some ad) n cap) l) : ∀ j u, (encFs l)[j]? = some u → w.cell? (ad.add j) = some u := by
  obtain ⟨p, cap', e, hc⟩ := h
  simp only [Value.slice.injEq] at e
  obtain ⟨rfl, rfl, rfl⟩ := e
  intro j u hj
  have hjl : j < l.length * 2 := by rw [← Ks.encFs_len l]; exact (List.getElem?_eq_some_iff.1 hj).1
  obtain ⟨i, hi⟩ : ∃ i, j = i * 2 ∨ j = i * 2 + 1 := ⟨j / 2, by omega⟩
  have hil : i < l.length := by omega
  obtain ⟨g, o, hp, hg, h0, h1⟩ := hc i l[i] (getF hil)
  simp only [Option.some.injEq] at hp
  subst hp
  have hat := encFs_at l [] i l[i] (getF hil)
  rw [List.append_nil] at hat
  rw [Addr.add_lit]
  rcases hi with rfl | rfl
  · rw [hat.1] at hj; cases hj; exact h0
  · rw [hat.2] at hj; cases hj; exact h1
set_option maxRecDepth 100000 in
set_option maxHeartbeats 1000000 in
theorem sclone_is (q : Option Addr) (l : List Fd) (cap : Nat) (hn : q = none → cap = 0) (hm : l.length * 32 ≤ 140737488355328) (w : World) (hv : Lst w (.slice q l.length cap) l) :
    Calls Tryd.prog 58 #[.slice q l.length cap] w fun e w' => (∃ q' cap', e = .returned (.slice q' l.length cap') ∧ OwnF w' w.heap.size (.slice q' l.length cap') l) ∧ Below w.heap.size w w' := by
  cases q with
  | none =>
    have hl : l = [] := by
      cases l with
      | nil => rfl
      | cons x l => obtain ⟨p, c, e, hc⟩ := hv; obtain ⟨g, o, hp, _⟩ := hc 0 x rfl; simp only [Value.slice.injEq] at e; rw [← e.1] at hp; cases hp
    subst hl
    have hc := hn rfl
    subst hc
    clear hv hn
    have hnil := fun W : World => Lib.run_eql_slice_nil (P := Tryd.prog) W 22 38 none 0 0 0 0 Tryd.underlying22
    go_enter Tryd.func58, Tryd.ntmps58
    go_wp2
    go_ret
    exact ⟨⟨_, _, rfl, World.ownsRow_nil _ _ _ _⟩, Below.refl _ _⟩
  | some ad =>
    have HB0 := Lib.hid (bnew w (.cells #[] 38))
    have HE := Lib.hid (show OwnF (w.alloc (.cells #[] 38)) w.heap.size (.slice (some ⟨w.heap.size, 0, none⟩) 0 0) [] from ⟨rfl, .inr ⟨w.heap.size, 0, #[], rfl, Nat.le_refl _, heap_alloc_new w _, Nat.le_refl _, by decide, rfl, rfl⟩⟩)
    have HN := Lib.hid (lst_news (hv.below HB0.out))
    obtain ⟨i0, hi, hz0, hz1, hz2⟩ := info_parts Ks.infoField
    clear hv hn
    have hnil := fun W : World => Lib.run_eql_slice_nil (P := Tryd.prog) W 22 38 (some ad) l.length cap 0 0 Tryd.underlying22
    go_enter Tryd.func58, Tryd.ntmps58
    go_wp2_with (first
      | (at_builtin; refine wpList_append_own _ rfl (.tmp 5) (.tmp 6) 22 rfl w.heap.size 38 i0 (.agg #[.string ⟨#[]⟩, .string ⟨#[]⟩]) 2 32 Tryd.underlying22 hi hz0 hz1 hz2 rfl (by decide) (.slice (some ⟨w.heap.size, 0, none⟩) 0 0) 0 [] rfl HE.out ad l.length cap (encFs l) rfl (Ks.encFs_len l) HN.out (encFs_one l) (by unfold maxLen; omega) (by omega) (by simp) ?_; intro v' w1 own1 grow1 _; have HB1 := Lib.hid (show Below w.heap.size w w1 from HB0.out.grown grow1 (by simp) (fun k hk => (HE.out.lt k hk).1)); have HO1 := Lib.hid own1; clear own1 grow1))
    go_wp2
    obtain ⟨q', cap', rfl⟩ := Ks.own_slice HO1.out
    go_ret
    refine ⟨⟨q', cap', ?_, ?_⟩, HB1.out⟩
    · show Ending.returned (Value.slice q' (0 + l.length) cap') = _
      rw [Nat.zero_add]
    · have := HO1.out
      rw [Nat.zero_add, List.nil_append] at this
      exact this
/-- the pairs of another name -/
def dropN (nm : ByteArray) (l : List Fd) : List Fd := l.filter fun x => !isN nm x
theorem has_setCells {g : Nat} {t : TypeId} : ∀ (vs : List Value) (o : Nat) (w : World) (cs : Array Value), Has w g (.cells cs t) → ∃ cs', Has (w.setCells g o vs) g (.cells cs' t) ∧ cs'.size = cs.size ∧ cs'.toList.take o = cs.toList.take o
  | [], o, w, cs, h => ⟨cs, h, rfl, rfl⟩
  | v :: vs, o, w, cs, h => by
    obtain ⟨cs', h1, h2, h3⟩ := has_setCells vs (o + 1) _ _ (Has.set h o v)
    refine ⟨cs', h1, by rw [h2]; simp, ?_⟩
    have h4 := congrArg (List.take o) h3
    rw [List.take_take, List.take_take, Nat.min_eq_left (by omega)] at h4
    rw [h4, Array.toList_setIfInBounds, List.take_set_of_le (Nat.le_refl o)]
theorem run_clear2 (w : World) (g k n c : Nat) (rest : List Value) (D : List Fd) (hR : RowF w g rest D) (hn : 0 < n) (hD : k + n ≤ D.length) (ty : TypeId) :
    ∃ vs, (Builtin.clear_ #[22] ty #[.slice (some ⟨g, k * 2, none⟩) n c]).run Tryd.prog w = .ok (.tuple #[]) (w.setCells g (k * 2) vs) := by
  obtain ⟨m, rfl⟩ : ∃ m, n = m + 1 := ⟨n - 1, by omega⟩
  have hz : ∀ W, (zeroValue 38).run Tryd.prog W = .ok (.agg #[.string ⟨#[]⟩, .string ⟨#[]⟩]) W := Tryd.zeroValue38
  have hlen : (Builtin.zeroCells (Value.agg #[.string ⟨#[]⟩, .string ⟨#[]⟩]).cells (m + 1)).toList.length = (m + 1) * 2 := by simp [Builtin.zeroCells, Value.cells]
  have hst := run_storeCells_cells (P := Tryd.prog) g (k * 2) (Builtin.zeroCells (Value.agg #[.string ⟨#[]⟩, .string ⟨#[]⟩]).cells (m + 1)).toList 0 w
    (fun j hj => by
      rw [hlen] at hj
      rw [cell_of_row _ _ _ _ _ _ hR]
      have : k * 2 + 0 + j < (encFs D ++ rest).length := by rw [List.length_append, Ks.encFs_len]; omega
      rw [List.length_append] at this
      simp
      omega)
    (fun j _ => hR.f _)
    (by
      intro v hv
      simp [Builtin.zeroCells, Value.cells] at hv
      obtain ⟨i, _, hi⟩ := hv
      rcases Nat.mod_two_eq_zero_or_one i with h | h <;> simp [h] at hi <;> subst hi <;> rfl)
  refine ⟨(Builtin.zeroCells (Value.agg #[.string ⟨#[]⟩, .string ⟨#[]⟩]).cells (m + 1)).toList, ?_⟩
  rw [Nat.add_zero] at hst
  simp only [Builtin.clear_]
  simp [run_underlying Tryd.underlying22, hz, hst]
end Go.Proofs.YtikdncmgppckfaaDoor
