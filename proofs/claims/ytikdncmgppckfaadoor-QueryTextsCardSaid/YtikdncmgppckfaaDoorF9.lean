import Derived.Test.YtikdncmgppckfaaDoorF8
/-
  Plain words for what Parse answers; parts of two texts with an & between; a list of pairs behind another one, appended.
-/
namespace Go.Proofs.YtikdncmgppckfaaDoor
open Go.RowKit
/-- Parse's error -/
def parI (l : List UInt8) : Int := if 65536 < l.length then 4 else if 256 < (paL l).length then 3 else 0
def parL (l : List UInt8) : List Fd := if parI l = 0 then paL l else []
theorem parI_cases (l : List UInt8) : parI l = 0 ∨ parI l = 3 ∨ parI l = 4 := by
  unfold parI; split
  · exact .inr (.inr rfl)
  · split
    · exact .inr (.inl rfl)
    · exact .inl rfl
theorem parL_len (l : List UInt8) : (parL l).length ≤ 256 := by
  unfold parL
  split
  · rename_i h
    unfold parI at h
    split at h
    · cases h
    · split at h
      · cases h
      · unfold paL at *; omega
  · simp
theorem parse_any (u : ByteArray) (hm : u.size ≤ 281474976710656) (l : List Fd) (hl : parL u.data.toList = l) (r : Int) (hr : parI u.data.toList = r) (w : World) (hM : ML w) :
    Calls Tryd.prog 11 #[.string u] w fun e w' => (∃ q cc, e = .returned (.tuple #[.slice q l.length cc, .int .i64 r]) ∧ w'.ownsRow w.heap.size 38 2 (.slice q l.length cc) l.length (encFs l)) ∧ Below w.heap.size w w' := by
  by_cases h1 : 65536 < u.size
  · have e1 : parI u.data.toList = 4 := by unfold parI; rw [len_list, if_pos h1]
    have e2 : parL u.data.toList = [] := by unfold parL; rw [e1]; rfl
    rw [e1] at hr; subst hr
    rw [e2] at hl; subst hl
    exact (Ks.parse_long u h1 hm w).mono fun e w' ⟨h, hb⟩ => ⟨⟨none, 0, h, World.ownsRow_nil _ _ _ _⟩, hb⟩
  · have h := Ks.parse_is u (by omega) w hM
    by_cases h2 : 256 < (paL u.data.toList).length
    · have e1 : parI u.data.toList = 3 := by unfold parI; rw [len_list, if_neg h1, if_pos h2]
      have e2 : parL u.data.toList = [] := by unfold parL; rw [e1]; rfl
      rw [e1] at hr; subst hr
      rw [e2] at hl; subst hl
      refine h.mono fun e w' ⟨h, hb⟩ => ?_
      rw [if_pos h2] at h
      exact ⟨⟨none, 0, h, World.ownsRow_nil _ _ _ _⟩, hb⟩
    · have e1 : parI u.data.toList = 0 := by unfold parI; rw [len_list, if_neg h1, if_neg h2]
      have e2 : parL u.data.toList = paL u.data.toList := by unfold parL; rw [e1]; rfl
      rw [e1] at hr; subst hr
      rw [e2] at hl; subst hl
      refine h.mono fun e w' ⟨h, hb⟩ => ?_
      rw [if_neg h2] at h
      obtain ⟨v, he, ho⟩ := h
      obtain ⟨q, cc, rfl⟩ := Ks.own_slice ho
      exact ⟨⟨q, cc, he, ho⟩, hb⟩
theorem parts_join (c : UInt8) (a b : List UInt8) : Ks.partsAt c (a ++ c :: b) = Ks.partsAt c a ++ Ks.partsAt c b := by
  induction a with
  | nil => simp [Ks.partsAt]
  | cons x a ih =>
    rw [List.cons_append]
    by_cases hx : x = c
    · subst hx
      rw [Ks.partsAt, if_pos rfl, Ks.partsAt, if_pos rfl, ih]; rfl
    · rw [Ks.partsAt, if_neg hx, Ks.partsAt, if_neg hx, ih]
      cases h : Ks.partsAt c a with
      | nil => exact absurd h (Ks.partsAt_ne c a)
      | cons p q => simp
theorem pa_join (a b : List UInt8) : paL (a ++ 38 :: b) = paL a ++ paL b := by
  show Ks.fdsOf _ = Ks.fdsOf _ ++ Ks.fdsOf _
  rw [parts_join]
  unfold Ks.fdsOf
  rw [List.filter_append, List.map_append]
theorem encFs_app (a b : List Fd) : encFs (a ++ b) = encFs a ++ encFs b := List.flatMap_append
theorem encFs_one (l : List Fd) : ∀ u ∈ encFs l, u.oneCell' = true := by
  intro u hu
  obtain ⟨x, _, hx⟩ := List.mem_flatMap.1 hu
  simp only [encF, List.mem_cons, List.mem_nil_iff, or_false] at hx
  rcases hx with rfl | rfl <;> rfl
/-- a row of pairs of the call's own -/
abbrev OwnF (w : World) (B : Nat) (v : Value) (l : List Fd) : Prop := w.ownsRow B 38 2 v l.length (encFs l)
theorem run_append_pairs {w : World} (ty : TypeId) (B : Nat) (v : Value) (l : List Fd) (hown : OwnF w B v l) (B2 : Nat) (v2 : Value) (l2 : List Fd) (h2 : OwnF w B2 v2 l2)
    (hlen : l.length + l2.length ≤ 1048576) (hbase : B ≤ w.heap.size) :
    ∃ v' w', (Builtin.append_ #[22, 22] ty #[v, v2]).run Tryd.prog w = .ok v' w' ∧ OwnF w' B v' (l ++ l2) ∧ w.grownBy w' v.ownBlock ∧ (v'.ownBlock = v.ownBlock ∨ v'.ownBlock = some w.heap.size) := by
  obtain ⟨i0, hi, hz0, hz1, hz2⟩ := info_parts Ks.infoField
  rcases h2.2 with ⟨rfl, h0⟩ | ⟨g, cap, cur, rfl, _⟩
  · have hy : l2 = [] := List.eq_nil_of_length_eq_zero h0
    subst hy
    have hrun := run_append_owned_none (P := Tryd.prog) (w := w) B 22 ty 38 i0 2 Tryd.underlying22 hi v l.length _ hown
    exact ⟨v, w, hrun, by simpa using hown, ⟨rfl, rfl, rfl, Nat.le_refl _, fun _ _ _ => rfl⟩, .inl rfl⟩
  · obtain ⟨v', w', hr, a1, b1, _, d1⟩ := run_append_own_at (P := Tryd.prog) w B 22 ty 38 i0 (.agg #[.string ⟨#[]⟩, .string ⟨#[]⟩]) 2 32 Tryd.underlying22 hi hz0 hz1 hz2 rfl (by decide) v l.length _ hown ⟨g, 0, none⟩ l2.length cap (encFs l2) (Ks.encFs_len l2) (fun j u hj => h2.cells (g := g) rfl j u hj) (encFs_one l2) (by unfold maxLen; omega) (by omega) hbase
    refine ⟨v', w', hr, ?_, b1, d1⟩
    unfold OwnF
    rw [List.length_append, encFs_app]
    exact a1
/-- pairs appended behind a row of the call's own, guarded or not -/
theorem wpList_append_pairs {w : World} {ops : Array Oper} {rest : List Oper} {o : Oper} {a : Act} {Q : Exit → Act → World → Prop} (hgd : Region.wanted o (yielded ops a.tmps) = true) (s x : Operand)
    (ho : o.op = .call { callee := .builtin .append, args := #[s, x], argTypes := #[22, 22] })
    (B : Nat) (v : Value) (l : List Fd) (hs : a.eval s = v) (hown : OwnF w B v l) (B2 : Nat) (v2 : Value) (l2 : List Fd) (hx : a.eval x = v2) (h2 : OwnF w B2 v2 l2)
    (hlen : l.length + l2.length ≤ 1048576) (hbase : B ≤ w.heap.size)
    (h : ∀ v' w', OwnF w' B v' (l ++ l2) → w.grownBy w' v.ownBlock → (v'.ownBlock = v.ownBlock ∨ v'.ownBlock = some w.heap.size) → wpList Tryd.prog ops Q rest (a.put o.dst v') w') : wpList Tryd.prog ops Q (o :: rest) a w := by
  obtain ⟨v', w', hr, a1, b1, d1⟩ := run_append_pairs (w := w) o.type B v l hown B2 v2 l2 h2 hlen hbase
  refine wpList_step fun K hK => ?_
  rw [if_pos hgd]
  unfold Oper.wp execOp
  simp only [ho, resolve, invoke, builtin, Sem.run_bind, Sem.run_pure, Result.andThen_ok, List.map_toArray, List.map_cons, List.map_nil, hs, hx, hr]
  exact hK _ _ (h v' w' a1 b1 d1)
end Go.Proofs.YtikdncmgppckfaaDoor
