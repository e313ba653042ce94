import Derived.Test.YthdodmbopchfdaaLV
namespace Go.Proofs.Ythdodmbopchfdaa
open Go.RowKit P
theorem runes_news {w : World} {ad : Addr} {n cap : Nat} {l : List Int} (h : RunesAt w (.slice (some ad) n cap) l) : n = l.length ∧ ∀ j u, (l.map (Value.int .i32))[j]? = some u → w.cell? (ad.add j) = some u := by
  obtain ⟨p, c, e, hc⟩ := h
  simp only [Value.slice.injEq] at e
  obtain ⟨rfl, rfl, rfl⟩ := e
  refine ⟨rfl, fun j u hj => ?_⟩
  rw [List.getElem?_map] at hj
  cases hx : l[j]? with
  | none => rw [hx] at hj; cases hj
  | some x =>
    rw [hx] at hj
    simp only [Option.map_some, Option.some.injEq] at hj
    subst hj
    obtain ⟨g, o, e2, hg, hc2⟩ := hc j x hx
    simp only [Option.some.injEq] at e2
    subst e2
    rw [Addr.add_lit]; exact hc2
theorem wpList_append_runes {w : World} {ops : Array Oper} {rest : List Oper} {o : Oper} {a : Act} {Q : Exit → Act → World → Prop} (hgd : o.guard = none) (s x : Operand)
    (ho : o.op = .call { callee := .builtin .append, args := #[s, x], argTypes := #[22, 22] })
    (B : Nat) (v : Value) (l : List Int) (hs : a.eval s = v) (hown : Own w B v l) (v2 : Value) (l2 : List Int) (hx : a.eval x = v2) (h2 : RunesAt w v2 l2) (hn2 : ∀ n c, v2 = .slice none n c → n = 0 ∧ c = 0)
    (hlen : l.length + l2.length ≤ 1048576) (hbase : B ≤ w.heap.size)
    (h : ∀ v' w', Own w' B v' (l ++ l2) → w.grownBy w' v.ownBlock → (v'.ownBlock = v.ownBlock ∨ v'.ownBlock = some w.heap.size) → wpList Try.prog ops Q rest (a.put o.dst v') w') : wpList Try.prog ops Q (o :: rest) a w := by
  obtain ⟨i0, hi, hz0, hz1, hz2⟩ := info_parts infoRune
  obtain ⟨p, cap, rfl, _⟩ := id h2
  cases p with
  | none =>
    obtain ⟨e1, e2⟩ := hn2 _ _ rfl
    have hy : l2 = [] := List.eq_nil_of_length_eq_zero e1
    subst hy e2
    have hrun := run_append_owned_none (P := Try.prog) (w := w) B 22 o.type 21 i0 1 Try.underlying22 hi v l.length _ hown
    refine wpList_plain hgd fun K hK => ?_
    unfold Oper.wp
    simp [execOp, ho, resolve, invoke, builtin, hs, hx, hrun, Result.andThen]
    refine hK _ _ (h v w ?_ ⟨rfl, rfl, rfl, Nat.le_refl _, fun _ _ _ => rfl⟩ (.inl rfl))
    simpa using hown
  | some ad =>
    have hlm : (l2.map (Value.int .i32)).length = l2.length * 1 := by simp
    refine wpList_append_own_at w hgd s x 22 ho B 21 i0 (.int .i32 0) 1 4 Try.underlying22 hi hz0 hz1 hz2 rfl (by decide) v l.length _ hs hown ad l2.length cap _ hx hlm (runes_news h2).2 (one_map _) (by unfold maxLen; omega) (by omega) hbase (fun v' w' a1 b1 _ d1 => h v' w' ?_ b1 d1)
    unfold Own
    rw [List.length_append, List.map_append]
    exact a1
theorem own_take {w : World} {B : Nat} {p : Option Addr} {n cap k : Nat} {l : List Int} (h : Own w B (.slice p n cap) l) (hk : k ≤ l.length) : Own w B (.slice p k cap) (l.take k) := by
  have hl : (l.take k).length = k := List.length_take_of_le hk
  have hform := h.form
  obtain ⟨p', cap', e, _⟩ := hform
  simp only [Value.slice.injEq] at e
  obtain ⟨rfl, rfl, rfl⟩ := e
  rcases h.2 with ⟨e, h0⟩ | ⟨g, cap', cur, e, hB, hg, hc, hm, hs, ht⟩
  · simp only [Value.slice.injEq] at e
    obtain ⟨rfl, h1, rfl⟩ := e
    refine ⟨by simp, .inl ⟨by rw [show k = 0 by omega], by omega⟩⟩
  · simp only [Value.slice.injEq] at e
    obtain ⟨rfl, _, rfl⟩ := e
    refine ⟨by simp, .inr ⟨g, cap, cur, by rw [hl], hB, hg, by omega, hm, hs, ?_⟩⟩
    have h1 := congrArg (List.take k) ht
    rw [List.take_take] at h1
    rw [hl, Nat.mul_one]
    rw [show min k (l.length * 1) = k by omega] at h1
    rw [h1, List.map_take]
theorem own_empty (w : World) (B : Nat) (hB : B ≤ w.heap.size) : Own (w.alloc (.cells #[] 21)) B (.slice (some ⟨w.heap.size, 0, none⟩) 0 0) [] := by
  have := World.ownsRow_lit (base := B) (e := 21) (size := 1) w #[] 0 hB (by decide) rfl
  exact this
theorem take_runes {w : World} {p : Option Addr} {M cap N : Nat} {G : List Int} (h : RunesAt w (.slice p M cap) G) (hN : N ≤ M) : RunesAt w (.slice p N cap) (G.take N) := by
  obtain ⟨p', c', e, hc⟩ := h
  simp only [Value.slice.injEq] at e
  obtain ⟨rfl, rfl, rfl⟩ := e
  refine ⟨p, cap, by rw [List.length_take_of_le hN], fun k x hk => hc k x ?_⟩
  by_cases hkN : k < N
  · rw [List.getElem?_take_of_lt hkN] at hk; exact hk
  · rw [List.getElem?_eq_none (by rw [List.length_take_of_le hN]; omega)] at hk; cases hk
theorem drop_runes {w : World} {p : Option Addr} {M cap N : Nat} {G : List Int} (h : RunesAt w (.slice p M cap) G) (hN : N ≤ M) (hM : M ≤ cap) : RunesAt w (.slice (if cap = N then p else p.map (fun x => x.add N)) (M - N) (cap - N)) (G.drop N) := by
  obtain ⟨p', c', e, hc⟩ := h
  simp only [Value.slice.injEq] at e
  obtain ⟨rfl, rfl, rfl⟩ := e
  refine ⟨_, cap - N, by rw [List.length_drop], fun k x hk => ?_⟩
  have hkl := (List.getElem?_eq_some_iff.1 hk).1
  rw [List.length_drop] at hkl
  rw [List.getElem?_drop] at hk
  obtain ⟨g, o, rfl, hg, hx⟩ := hc _ x hk
  rw [if_neg (by omega)]
  have e2 : (⟨g, o, none⟩ : Addr).add N = ⟨g, o + N, none⟩ := Addr.add_lit ..
  refine ⟨g, o + N, by simp [e2], hg, ?_⟩
  rw [Nat.add_assoc]; exact hx
theorem own_nilv {w : World} {B : Nat} {v : Value} {l : List Int} (h : Own w B v l) : ∀ n c, v = .slice none n c → n = 0 ∧ c = 0 := by
  intro n c e
  subst e
  rcases h.2 with ⟨e, h0⟩ | ⟨g, cap', cur, e, _⟩
  · simp only [Value.slice.injEq] at e; exact ⟨by omega, by omega⟩
  · simp only [Value.slice.injEq] at e; cases e.1
theorem own_cases {w : World} {B : Nat} {p : Option Addr} {n cap : Nat} {l : List Int} (h : Own w B (.slice p n cap) l) : (p = none ∧ cap = 0 ∧ l = []) ∨ (∃ g, p = some ⟨g, 0, none⟩ ∧ g < w.heap.size ∧ l.length ≤ cap) := by
  rcases h.2 with ⟨e, h0⟩ | ⟨g, cap', cur, e, hB, hg, hc, _⟩
  · simp only [Value.slice.injEq] at e; exact .inl ⟨e.1, e.2.2, List.eq_nil_of_length_eq_zero h0⟩
  · simp only [Value.slice.injEq] at e
    exact .inr ⟨g, e.1, (Array.getElem?_eq_some_iff.1 hg).1, by omega⟩
theorem block_lt {w : World} {B : Nat} {v : Value} {l : List Int} (h : Own w B v l) {k : Nat} (hk : w.heap.size ≤ k) : v.ownBlock = none ∨ v.ownBlock ≠ some k := by
  cases hv : v.ownBlock with
  | none => exact .inl rfl
  | some j =>
    have := (h.lt j hv).2
    exact .inr (by simp; omega)
theorem blocks_apart {w : World} {B H H' : Nat} {v v7 : Value} {l : List Int} (h7 : v7.ownBlock = (Value.slice (some ⟨H, 0, none⟩) 0 0).ownBlock ∨ v7.ownBlock = some H') (h : Own w B v l) (h1 : w.heap.size ≤ H) (h2 : w.heap.size ≤ H') : v7.ownBlock = none ∨ v7.ownBlock ≠ v.ownBlock := by
  refine .inr (fun e => ?_)
  rcases h7 with h7 | h7
  · rw [h7] at e
    have := (h.lt H e.symm).2
    omega
  · rw [h7] at e
    have := (h.lt H' e.symm).2
    omega
def valR (c : Nat) : Int := (valN c).getD 36
set_option maxRecDepth 100000 in
set_option maxHeartbeats 2000000 in
theorem rvalue_is (c : Nat) (d : Int) (hd : valR c = d) (hc : c < 256) (w : World) : Calls Try.prog 22 #[.int .u8 c] w fun e w' => e = .returned (.int .i64 d) ∧ w = w' := by
  have HV : Hid ((97 ≤ c ∧ c ≤ 122 → d = (c : Int) - 97) ∧ (¬ (97 ≤ c ∧ c ≤ 122) → 65 ≤ c ∧ c ≤ 90 → d = (c : Int) - 65) ∧ (¬ (97 ≤ c ∧ c ≤ 122) → ¬ (65 ≤ c ∧ c ≤ 90) → 48 ≤ c ∧ c ≤ 57 → d = (c : Int) - 48 + 26) ∧ (¬ (97 ≤ c ∧ c ≤ 122) → ¬ (65 ≤ c ∧ c ≤ 90) → ¬ (48 ≤ c ∧ c ≤ 57) → d = 36)) := Lib.hid (by
    rw [← hd]
    unfold valR valN
    refine ⟨fun h => ?_, fun h1 h => ?_, fun h1 h2 h => ?_, fun h1 h2 h3 => ?_⟩
    · rw [if_pos h]; rfl
    · rw [if_neg h1, if_pos h]; rfl
    · rw [if_neg h1, if_neg h2, if_pos h]; rfl
    · rw [if_neg h1, if_neg h2, if_neg h3]; rfl)
  clear hd
  go_enter Try.func22, Try.ntmps22
  go_wp2
  all_goals go_ret
  all_goals refine ⟨?_, rfl⟩
  all_goals first
    | exact ret_int (by rw [HV.out.1 (by omega)])
    | exact ret_int (by rw [HV.out.2.1 (by omega) (by omega)])
    | exact ret_int (by rw [HV.out.2.2.1 (by omega) (by omega) (by omega)])
    | exact ret_int (by rw [HV.out.2.2.2 (by omega) (by omega) (by omega)])
end Go.Proofs.Ythdodmbopchfdaa
