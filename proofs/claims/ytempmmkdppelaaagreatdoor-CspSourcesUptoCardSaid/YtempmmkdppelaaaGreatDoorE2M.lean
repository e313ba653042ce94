/-
  csp's Header.
-/
import Derived.Test.YtempmmkdppelaaaGreatDoorU2M
import Derived.LoopIn
namespace Go.Proofs.YtempmmkdppelaaaGreatDoor
open Go.RowKit Go.Shelf
attribute [local go_sem] Oper.semAt_some
theorem stepH_len {st : Except Nat (List (List Dir))} {p : List UInt8} {out : List (List Dir)} (h : stepH st p = .ok out) (hb : ∀ o, st = .ok o → o.length ≤ 65) : out.length ≤ 65 := by
  unfold stepH at h
  cases st with
  | error c => cases h
  | ok o =>
    have h0 := hb o rfl
    simp only at h
    split at h
    · cases h
    · split at h
      · cases h; rw [List.length_append, List.length_singleton]; omega
      · cases h; exact h0
theorem foldH_len : ∀ (ps : List (List UInt8)) {out : List (List Dir)}, foldH ps = .ok out → out.length ≤ 65 := by
  have key : ∀ (ps : List (List UInt8)) (st : Except Nat (List (List Dir))) (out : List (List Dir)), (∀ o, st = .ok o → o.length ≤ 65) → ps.foldl stepH st = .ok out → out.length ≤ 65 := by
    intro ps
    induction ps with
    | nil => intro st out hb h; exact hb out h
    | cons p ps ih => intro st out hb h; exact ih (stepH st p) out (fun o ho => stepH_len ho hb) h
  exact fun ps out h => key ps _ out (fun o ho => by cases ho; simp) h
theorem parseP_err {y : ByteArray} {c : Nat} (h : parseP y = .error c) : c = 3 ∨ c = 4 := by
  unfold parseP at h
  split at h
  · cases h; exact .inr rfl
  · split at h
    · cases h; exact .inl rfl
    · cases h
/-- what holds between the parts; O: what is known of where the policies lie -/
structure CoreH (w : World) (rep : Bool) (ds : List Nat) (O : Value → List RP → Prop) (parts : List (List UInt8)) (W : World) : Prop where
  out : ∃ v ps, Has W (w.heap.size + 3) (.cells #[v] 29) ∧ OwnP W (w.heap.size + 4) rep v ps ∧ O v ps ∧ foldH parts = .ok (ps.map RP.pol)
  b : Below w.heap.size w W
  hr : Has W w.heap.size (.cells #[.bool rep] 4)
  h1 : Has W (w.heap.size + 1) (.cells #[.slice none 0 0] 29)
  h2 : Has W (w.heap.size + 2) (.cells #[.int .i64 0] 26)
  marks : ∀ D ∈ ds, Has W D (.deferred (some []))
structure InvH (w : World) (rep : Bool) (ds : List Nat) (bx : Nat) (parts : List (List UInt8)) (W : World) : Prop where
  c : CoreH w rep ds (OffP bx) parts W
  tx : Ks.TextBox 9 bx W
  be : Boxed W (bx + 1) 9 (.string ⟨#[44]⟩)
  bv : Boxed W (bx + 2) 3 (.int .i64 0)
structure StopH (w : World) (ds : List Nat) (cd : Code) (parts : List (List UInt8)) (W : World) : Prop where
  b : Below w.heap.size w W
  n : ∃ c, foldH parts = .error c ∧ Has W (w.heap.size + 2) (.cells #[.int .i64 c] 26)
  h1 : Has W (w.heap.size + 1) (.cells #[.slice none 0 0] 29)
  marks : ∀ D ∈ ds, Has W D (.deferred (some []))
  r : cd = .ret
theorem mark_keep {A C : World} {row : Option Nat} {B bx D : Nat} (hg : A.grownBy C row) (hr : OnlyBx B bx A C row) (hD : D < B) (h : Has A D (.deferred (some []))) : Has C D (.deferred (some [])) := by
  refine (hg.block D h.lt (fun e => ?_)).trans h
  rcases hr D e.symm with ⟨hb, _⟩ | ⟨e2, ⟨x, hx⟩, _⟩
  · omega
  · subst e2
    rw [show A.heap[D]? = _ from h] at hx; cases hx
theorem invH_box (w : World) (rep : Bool) (ds : List Nat) (pre0 : List (List UInt8)) (B bx : Nat) (hB : w.heap.size ≤ B) (hbx : w.heap.size + 4 ≤ bx) (hds : ∀ D ∈ ds, D < B) : Ks.OwnBox (β := List Ks.PL) 9 B bx (fun pre W => InvH w rep ds bx (pre0 ++ pre.map Subtype.val) W) := by
  intro s A C row h hg hr
  obtain ⟨v, ps, h3, ho, hoff, hp⟩ := h.c.out
  exact ⟨⟨⟨v, ps, has_keep hg hr h3 (by omega), ownP_keep hg hr hoff ho, hoff, hp⟩, below_keep hg hr hB (by omega) h.c.b, has_keep hg hr h.c.hr (by omega), has_keep hg hr h.c.h1 (by omega), has_keep hg hr h.c.h2 (by omega), fun D hD => mark_keep hg hr (hds D hD) (h.c.marks D hD)⟩, text_keep hg hr h.tx, has_keep hg hr h.be (by omega), has_keep hg hr h.bv (by omega)⟩
theorem stopH_box (w : World) (ds : List Nat) (cd : Code) (pre0 : List (List UInt8)) (B bx : Nat) (hB : w.heap.size ≤ B) (hbx : w.heap.size + 4 ≤ bx) (hds : ∀ D ∈ ds, D < B) : Ks.OwnBox (β := List Ks.PL) 9 B bx (fun pre W => StopH w ds cd (pre0 ++ pre.map Subtype.val) W) := by
  intro s A C row h hg hr
  obtain ⟨c, hc, h2⟩ := h.n
  exact ⟨below_keep hg hr hB (by omega) h.b, ⟨c, hc, has_keep hg hr h2 (by omega)⟩, has_keep hg hr h.h1 (by omega), fun D hD => mark_keep hg hr (hds D hD) (h.marks D hD), h.r⟩
def st2 (W : World) (b : Nat) (v e : Value) : World := (W.setCell ⟨b, 0, none⟩ v).setCell ⟨b + 1, 0, none⟩ e
theorem store2 {W : World} {b : Nat} {t1 t2 : TypeId} {v0 e0 : Value} (v e : Value) (h0 : Has W b (.cells #[v0] t1)) (h1 : Has W (b + 1) (.cells #[e0] t2)) :
    W.cell? ⟨b, 0, none⟩ = some v0 ∧ W.frozen? ⟨b, 0, none⟩ = false ∧ (W.setCell ⟨b, 0, none⟩ v).cell? ⟨b + 1, 0, none⟩ = some e0 ∧ (W.setCell ⟨b, 0, none⟩ v).frozen? ⟨b + 1, 0, none⟩ = false ∧
    Has (st2 W b v e) b (.cells #[v] t1) ∧ Has (st2 W b v e) (b + 1) (.cells #[e] t2) := by
  have a1 : Has (W.setCell ⟨b, 0, none⟩ v) b (.cells #[v] t1) := h0.set 0 v
  have c1 : Has (W.setCell ⟨b, 0, none⟩ v) (b + 1) (.cells #[e0] t2) := h1.far (by simp) _
  exact ⟨h0.cell 0 rfl, h0.free 0, c1.cell 0 rfl, c1.free 0, a1.far (by simp) _, c1.set 0 e⟩
theorem st2_below {w W : World} {B b : Nat} (v e : Value) (h : Below B w W) (hb : B ≤ b) : Below B w (st2 W b v e) :=
  (h.setCell (p := ⟨b, 0, none⟩) hb _).setCell (p := ⟨b + 1, 0, none⟩) (Nat.le_succ_of_le hb) _
theorem st2_keeps (W : World) (b : Nat) (v e : Value) : KeepsOthers W (st2 W b v e) := (KeepsOthers.setCell _ _ _).trans (KeepsOthers.setCell _ _ _)
theorem ownP_st2 {W : World} {D b : Nat} {rep : Bool} {v a e : Value} {ps : List RP} (h : OwnP W D rep v ps) (hb : b + 1 < D) : OwnP (st2 W b a e) D rep v ps := ownP_set (ownP_set h (p := ⟨b, 0, none⟩) (show b < D by omega) a) (p := ⟨b + 1, 0, none⟩) hb e
theorem partsH_take {l : List ByteArray} {k : Nat} (h : k < l.length) : partsH (l.take (k + 1)) = partsH (l.take k) ++ Ks.partsAt 44 l[k].data.toList := by
  unfold partsH
  rw [List.take_succ_eq_append_getElem h, List.flatMap_append]; simp
theorem partsH_prefix {l : List ByteArray} {k : Nat} (h : k < l.length) : ∃ t, partsH l = partsH (l.take k) ++ Ks.partsAt 44 l[k].data.toList ++ t := by
  refine ⟨partsH (l.drop (k + 1)), ?_⟩
  rw [← partsH_take h]
  unfold partsH
  rw [← List.flatMap_append, List.take_append_drop]
theorem has_grownT {A C : World} {D e size n : Nat} {v : Value} {xs : List Value} (h : A.ownsRow D e size v n xs) (hg : A.grownBy C v.ownBlock) {k : Nat} {o : Obj} (hk : Has A k o) (ho : ∀ cs f, o ≠ .cells cs e f) : Has C k o := by
  refine (hg.block k hk.lt fun e' => ?_).trans hk
  rcases h.2 with ⟨rfl, _⟩ | ⟨g, cap, cur, rfl, _, hgb, _⟩
  · simp [Value.ownBlock] at e'
  · have : k = g := by simpa [Value.ownBlock] using e'
    subst this
    rw [show A.heap[k]? = _ from hk] at hgb
    cases hgb; exact ho _ _ rfl
theorem own_offT {W : World} {D e size n : Nat} {v : Value} {xs : List Value} (h : W.ownsRow D e size v n xs) {bx : Nat} {o : Obj} (hk : Has W bx o) (ho : ∀ cs f, o ≠ .cells cs e f) : v.ownBlock ≠ some bx := by
  rcases h.2 with ⟨rfl, _⟩ | ⟨g, cap, cur, rfl, hD, hg, _⟩
  · simp [Value.ownBlock]
  · intro e'
    have : g = bx := by simpa [Value.ownBlock] using e'
    subst this
    rw [show W.heap[g]? = _ from hk] at hg
    cases hg; exact ho _ _ rfl
/-- a policy more: the append and the store of what it gives -/
theorem push_allP {A C : World} {b D n : Nat} {v v' : Value} {rep : Bool} {ps : List RP} {p : RP} (h2 : Has A b (.cells #[v] 29)) (ho : OwnP A D rep v ps) (hr : OwnD A D p.v p.rs)
    (hg : A.grownBy C v.ownBlock) (hown : C.ownsRow D 25 2 v' (ps.length + 1) (encP rep ps ++ [p.v, .bool rep])) (hb : b < D) (hn : n ≤ b) (hDA : n ≤ A.heap.size) :
    C.cell? ⟨b, 0, none⟩ = some v ∧ C.frozen? ⟨b, 0, none⟩ = false ∧ Has (C.setCell ⟨b, 0, none⟩ v') b (.cells #[v'] 29) ∧ OwnP (C.setCell ⟨b, 0, none⟩ v') D rep v' (ps ++ [p]) ∧
    (∀ k o, Has A k o → (∀ cs f, o ≠ .cells cs 25 f) → k ≠ b → Has (C.setCell ⟨b, 0, none⟩ v') k o) ∧ KeepsOthers A (C.setCell ⟨b, 0, none⟩ v') ∧ (∀ w0, Below n w0 A → Below n w0 (C.setCell ⟨b, 0, none⟩ v')) := by
  have hc : Has C b (.cells #[v] 29) := has_grownT ho.row hg h2 (fun _ _ h => by cases h)
  refine ⟨hc.cell 0 rfl, hc.free 0, hc.set 0 v', ownP_set (ownP_more ho hr hg hown) hb _, fun k o hk hkD hkb => (has_grownT ho.row hg hk hkD).far (by simpa using hkb) _, ?_, fun w0 h0 => ?_⟩
  · refine (KeepsOthers.of_grownBy hg fun j o ej hj => ?_).trans (KeepsOthers.setCell _ _ _)
    rcases ho.row.2 with ⟨rfl, _⟩ | ⟨g, cap, cur, rfl, _, hgb, _⟩
    · simp [Value.ownBlock] at ej
    · obtain rfl : g = j := by simpa [Value.ownBlock] using ej
      rw [hgb] at hj; cases hj; rfl
  · refine (h0.grown hg hDA fun j ej => ?_).setCell (p := ⟨b, 0, none⟩) hn v'
    rcases ho.row.2 with ⟨rfl, _⟩ | ⟨g, cap, cur, rfl, hb2, _, _⟩
    · simp [Value.ownBlock] at ej
    · obtain rfl : g = j := by simpa [Value.ownBlock] using ej
      omega
end Go.Proofs.YtempmmkdppelaaaGreatDoor
