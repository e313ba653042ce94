/-
  Plain mathematics for package puny (no program is named here): what is read, with its bounds; what is written is read as it. No conditions.
-/
import Derived.Test.YthdodmbopchfdaaPE
import Derived.Test.YthdodmbopchfdaaUM
namespace Go.Proofs.Ythdodmbopchfdaa.P
def valN (c : Nat) : Option Int := if 97 ≤ c ∧ c ≤ 122 then some ((c : Int) - 97) else if 65 ≤ c ∧ c ≤ 90 then some ((c : Int) - 65) else if 48 ≤ c ∧ c ≤ 57 then some ((c : Int) - 48 + 26) else none
theorem valN_bd {c : Nat} {d : Int} (h : valN c = some d) : 0 ≤ d ∧ d ≤ 35 := by
  unfold valN at h
  split at h
  · simp only [Option.some.injEq] at h; omega
  · split at h
    · simp only [Option.some.injEq] at h; omega
    · split at h
      · simp only [Option.some.injEq] at h; omega
      · cases h
inductive NumR where
  | err (e : Int)
  | ok (i : Int) (rest : List UInt8)
def num : List UInt8 → Int → Int → Int → Int → NumR
  | [], _, _, _, _ => .err 9
  | c :: t, k, w, i, b => match valN c.toNat with
    | none => .err 9
    | some d => if 2147483647 < i + d * w then .err 10 else if d < thr k b then .ok (i + d * w) t else if 2147483647 < w * (36 - thr k b) then .err 10 else num t (k + 36) (w * (36 - thr k b)) (i + d * w) b
def dec : Nat → List UInt8 → Int → Int → Int → List Int → List Int × Int
  | _, [], _, _, _, out => (out, 0)
  | 0, _ :: _, _, _, _, _ => ([], 0)
  | f + 1, c :: t, n, i, b, out => match num (c :: t) 36 1 i b with
    | .err e => ([], e)
    | .ok i' rest => if U.May (n + i' / (out.length + 1)) then dec f rest (n + i' / (out.length + 1)) (i' % (out.length + 1) + 1) (bias (i' - i) (out.length + 1) (i == 0)) (ins out (i' % (out.length + 1)).toNat (n + i' / (out.length + 1))) else ([], 9)
/-- what is read as a number, without its bounds -/
theorem num_par : ∀ (s : List UInt8) (k w i b i' : Int) (rest : List UInt8), num s k w i b = .ok i' rest → ∃ (vs : List Int) (δ : Int), s.map (fun c => valN c.toNat) = vs.map some ++ rest.map (fun c => valN c.toNat) ∧ (∀ x ∈ vs, 0 ≤ x ∧ x ≤ 35) ∧ (∀ l, par (vs ++ l) k b = some (δ, l)) ∧ i' = i + δ * w ∧ rest.length < s.length
  | [], _, _, _, _, _, _, h => by cases h
  | c :: t, k, w, i, b, i', rest, h => by
    rw [num] at h
    cases hv : valN c.toNat with
    | none => rw [hv] at h; cases h
    | some d =>
      rw [hv] at h
      dsimp only at h
      split at h
      · cases h
      · split at h
        · rename_i hd
          simp only [NumR.ok.injEq] at h
          obtain ⟨rfl, rfl⟩ := h
          refine ⟨[d], d, by simp [hv], fun x hx => by simp only [List.mem_singleton] at hx; subst hx; exact valN_bd hv, fun l => by simp only [List.cons_append, List.nil_append, par]; rw [if_pos hd], rfl, by simp⟩
        · rename_i hd
          split at h
          · cases h
          · obtain ⟨vs, δ, h1, h2, h3, h4, h5⟩ := num_par t _ _ _ _ _ _ h
            refine ⟨d :: vs, d + (36 - thr k b) * δ, by simp [hv, h1], ?_, ?_, ?_, by simp only [List.length_cons]; omega⟩
            · intro x hx
              rcases List.mem_cons.1 hx with rfl | hx
              · exact valN_bd hv
              · exact h2 x hx
            · intro l
              rw [List.cons_append, par, if_neg hd, h3 l]; rfl
            · rw [h4, Int.add_mul, Int.mul_comm (36 - thr k b) δ, Int.mul_assoc, Int.mul_comm (36 - thr k b) w]; omega
/-- where a list's bytes stand for the same digits, the same is read -/
theorem num_cong : ∀ (s s' : List UInt8) (k w i b : Int), s.map (fun c => valN c.toNat) = s'.map (fun c => valN c.toNat) → (∃ e, num s k w i b = .err e ∧ num s' k w i b = .err e) ∨ (∃ i' r r', num s k w i b = .ok i' r ∧ num s' k w i b = .ok i' r' ∧ r.map (fun c => valN c.toNat) = r'.map (fun c => valN c.toNat))
  | [], [], _, _, _, _, _ => .inl ⟨9, rfl, rfl⟩
  | [], _ :: _, _, _, _, _, h => by simp at h
  | _ :: _, [], _, _, _, _, h => by simp at h
  | c :: t, c' :: t', k, w, i, b, h => by
    simp only [List.map_cons, List.cons.injEq] at h
    rw [num, num, h.1]
    cases valN c'.toNat with
    | none => exact .inl ⟨9, rfl, rfl⟩
    | some d =>
      dsimp only
      by_cases h1 : 2147483647 < i + d * w
      · rw [if_pos h1, if_pos h1]; exact .inl ⟨10, rfl, rfl⟩
      · rw [if_neg h1, if_neg h1]
        by_cases h2 : d < thr k b
        · rw [if_pos h2, if_pos h2]; exact .inr ⟨_, _, _, rfl, rfl, h.2⟩
        · rw [if_neg h2, if_neg h2]
          by_cases h3 : 2147483647 < w * (36 - thr k b)
          · rw [if_pos h3, if_pos h3]; exact .inl ⟨10, rfl, rfl⟩
          · rw [if_neg h3, if_neg h3]
            exact num_cong t t' _ _ _ _ h.2
theorem dec_cong : ∀ (f f' : Nat) (s s' : List UInt8) (n i b : Int) (out : List Int), s.length ≤ f → s'.length ≤ f' → s.map (fun c => valN c.toNat) = s'.map (fun c => valN c.toNat) → dec f s n i b out = dec f' s' n i b out
  | f, f', [], [], _, _, _, _, _, _, _ => by cases f <;> cases f' <;> rfl
  | _, _, [], _ :: _, _, _, _, _, _, _, h => by simp at h
  | _, _, _ :: _, [], _, _, _, _, _, _, h => by simp at h
  | 0, _, _ :: _, _ :: _, _, _, _, _, h, _, _ => by simp at h
  | _ + 1, 0, _ :: _, _ :: _, _, _, _, _, _, h, _ => by simp at h
  | f + 1, f' + 1, c :: t, c' :: t', n, i, b, out, hf, hf', h => by
    rcases num_cong (c :: t) (c' :: t') 36 1 i b h with ⟨e, h1, h2⟩ | ⟨i', r, r', h1, h2, h3⟩
    · rw [dec, dec, h1, h2]
    · obtain ⟨_, _, _, _, _, _, l1⟩ := num_par _ _ _ _ _ _ _ h1
      obtain ⟨_, _, _, _, _, _, l2⟩ := num_par _ _ _ _ _ _ _ h2
      rw [dec, dec, h1, h2]
      dsimp only
      split
      · exact dec_cong f f' r r' _ _ _ _ (by simp only [List.length_cons] at hf l1; omega) (by simp only [List.length_cons] at hf' l2; omega) h3
      · rfl
/-- what is read is a run of deltas -/
theorem dec_run : ∀ (f : Nat) (s : List UInt8) (n i b : Int) (out L : List Int) (bas ds o : List Int), Run bas ds o n i b out → s.length ≤ f → dec f s n i b out = (L, 0) → ∃ ds' vs n' i' b', Run bas ds' (o ++ vs) n' i' b' L ∧ s.map (fun c => valN c.toNat) = vs.map some ∧ ∀ x ∈ L, x ∈ out ∨ U.May x
  | f, [], n, i, b, out, L, bas, ds, o, hR, _, h => by
    have h' : out = L := by cases f <;> (rw [dec] at h; simpa using h)
    subst h'
    exact ⟨ds, [], n, i, b, by simpa using hR, rfl, fun x hx => .inl hx⟩
  | 0, _ :: _, _, _, _, _, _, _, _, _, _, hf, _ => by simp at hf
  | f + 1, c :: t, n, i, b, out, L, bas, ds, o, hR, hf, h => by
    rw [dec] at h
    cases hn : num (c :: t) 36 1 i b with
    | err e =>
      exfalso
      rw [hn] at h
      simp only [Prod.mk.injEq] at h
      have : ∀ (s : List UInt8) (k w i b e : Int), num s k w i b = .err e → e ≠ 0 := by
        intro s
        induction s with
        | nil => intro k w i b e h; rw [num] at h; cases h; decide
        | cons c t ih =>
          intro k w i b e h
          rw [num] at h
          cases hv : valN c.toNat with
          | none => rw [hv] at h; cases h; decide
          | some d =>
            rw [hv] at h
            dsimp only at h
            split at h
            · cases h; decide
            · split at h
              · cases h
              · split at h
                · cases h; decide
                · exact ih _ _ _ _ _ h
      exact this _ _ _ _ _ _ hn h.2
    | ok i' rest =>
      rw [hn] at h
      dsimp only at h
      obtain ⟨vs, δ, h1, h2, h3, h4, h5⟩ := num_par _ _ _ _ _ _ _ hn
      split at h
      · rename_i hmay
        have hp := h3 []
        rw [List.append_nil] at hp
        obtain ⟨hd0, hd1⟩ := digs_par h2 hp
        rw [List.append_nil] at hd1
        have e : i' = i + δ := by rw [h4, Int.mul_one]
        have hs := Run.step δ hR hd0
        rw [← e, ← hd1] at hs
        have hδ : i' - i = δ := by omega
        rw [hδ] at h
        obtain ⟨ds2, vs2, n2, i2, b2, r1, r2, r3⟩ := dec_run f rest _ _ _ _ L bas _ _ hs (by simp only [List.length_cons] at hf h5; omega) h
        refine ⟨ds2, vs ++ vs2, n2, i2, b2, by rw [← List.append_assoc]; exact r1, ?_, ?_⟩
        · rw [h1, r2, List.map_append]
        · intro x hx
          rcases r3 x hx with h | h
          · rcases (ins_parts x).1 h with rfl | h
            · exact .inr hmay
            · exact .inl h
          · exact .inr h
      · simp at h
end Go.Proofs.Ythdodmbopchfdaa.P
