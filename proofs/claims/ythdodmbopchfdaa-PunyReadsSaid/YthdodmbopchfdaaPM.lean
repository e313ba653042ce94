/-
  Plain mathematics for package puny (no program is named here): Punycode written and read, what a run of deltas makes, there and back. No conditions.
-/
namespace Go.Proofs.Ythdodmbopchfdaa.P
def thr (k b : Int) : Int := if k - b < 1 then 1 else if 26 < k - b then 26 else k - b
theorem thr_bd (k b : Int) : 1 ≤ thr k b ∧ thr k b ≤ 26 := by
  unfold thr; split
  · omega
  · split <;> omega
def biasF : Nat → Int → Int → Int
  | 0, d, k => k + 36 * d / (d + 38)
  | f + 1, d, k => if 455 < d then biasF f (d / 35) (k + 36) else k + 36 * d / (d + 38)
def bias0 (delta many : Int) (first : Bool) : Int := (if first then delta / 700 else delta / 2) + (if first then delta / 700 else delta / 2) / many
def bias (delta many : Int) (first : Bool) : Int := biasF (bias0 delta many first).toNat (bias0 delta many first) 0
theorem biasF_more {f : Nat} {d k : Int} (h : 455 < d) : biasF (f + 1) d k = biasF f (d / 35) (k + 36) := by rw [biasF, if_pos h]
theorem biasF_end {f : Nat} {d k : Int} (h : ¬ 455 < d) : biasF f d k = k + 36 * d / (d + 38) := by
  cases f with
  | zero => rfl
  | succ f => rw [biasF, if_neg h]
theorem bias0_bd {delta many : Int} {first : Bool} (h0 : 0 ≤ delta) (h1 : 1 ≤ many) : 0 ≤ bias0 delta many first ∧ bias0 delta many first ≤ 2 * delta := by
  unfold bias0
  have hq : 0 ≤ (if first then delta / 700 else delta / 2) ∧ (if first then delta / 700 else delta / 2) ≤ delta := by
    split <;> omega
  generalize (if first then delta / 700 else delta / 2) = q at *
  have h2 : 0 ≤ q / many := Int.ediv_nonneg (by omega) (by omega)
  have h3 : q / many ≤ q := Int.ediv_le_self _ (by omega)
  omega
theorem frac_bd {d : Int} (h0 : 0 ≤ d) : 0 ≤ 36 * d / (d + 38) ∧ 36 * d / (d + 38) ≤ 36 := by
  constructor
  · exact Int.ediv_nonneg (by omega) (by omega)
  · exact Int.le_of_lt_add_one (Int.ediv_lt_of_lt_mul (by omega) (by omega))
theorem biasF_bd : ∀ (f : Nat) (d k : Int), 0 ≤ d → 0 ≤ k → 0 ≤ biasF f d k ∧ biasF f d k ≤ k + d + 36
  | 0, d, k, h0, h1 => by have := frac_bd h0; rw [biasF]; omega
  | f + 1, d, k, h0, h1 => by
    have := frac_bd h0
    rw [biasF]
    split
    · have := biasF_bd f (d / 35) (k + 36) (by omega) (by omega)
      omega
    · omega
theorem bias_bd {delta many : Int} {first : Bool} (h0 : 0 ≤ delta) (h1 : 1 ≤ many) : 0 ≤ bias delta many first ∧ bias delta many first ≤ 2 * delta + 36 := by
  have hb := bias0_bd (first := first) h0 h1
  have := biasF_bd (bias0 delta many first).toNat (bias0 delta many first) 0 hb.1 (by omega)
  unfold bias; omega
/-- the digits of a delta, as numbers -/
def digF : Nat → Int → Int → Int → List Int
  | 0, q, _, _ => [q]
  | f + 1, q, k, b => if q < thr k b then [q] else (thr k b + (q - thr k b) % (36 - thr k b)) :: digF f ((q - thr k b) / (36 - thr k b)) (k + 36) b
def digs (d b : Int) : List Int := digF d.toNat d 36 b
theorem digF_end {f : Nat} {q k b : Int} (h : q < thr k b) : digF f q k b = [q] := by
  cases f with
  | zero => rfl
  | succ f => rw [digF, if_pos h]
theorem digF_more {f : Nat} {q k b : Int} (h : ¬ q < thr k b) : digF (f + 1) q k b = (thr k b + (q - thr k b) % (36 - thr k b)) :: digF f ((q - thr k b) / (36 - thr k b)) (k + 36) b := by rw [digF, if_neg h]
theorem next_bd {q k b : Int} (h0 : ¬ q < thr k b) : 0 ≤ (q - thr k b) / (36 - thr k b) ∧ (q - thr k b) / (36 - thr k b) < q ∧ 0 ≤ (q - thr k b) % (36 - thr k b) ∧ (q - thr k b) % (36 - thr k b) < 36 - thr k b := by
  have ht := thr_bd k b
  generalize thr k b = t at *
  have h1 : 0 ≤ (q - t) / (36 - t) := Int.ediv_nonneg (by omega) (by omega)
  have h2 : (q - t) / (36 - t) ≤ q - t := Int.ediv_le_self _ (by omega)
  exact ⟨h1, by omega, Int.emod_nonneg _ (by omega), Int.emod_lt_of_pos _ (by omega)⟩
theorem digF_all : ∀ (f : Nat) (q k b : Int), 0 ≤ q → q ≤ f → ∀ x ∈ digF f q k b, 0 ≤ x ∧ x ≤ 35
  | 0, q, k, b, h0, h1, x, hx => by
    rw [digF] at hx
    obtain rfl := List.mem_singleton.1 hx
    omega
  | f + 1, q, k, b, h0, h1, x, hx => by
    have ht := thr_bd k b
    rw [digF] at hx
    split at hx
    · obtain rfl := List.mem_singleton.1 hx
      omega
    · rename_i hq
      have hn := next_bd hq
      rcases List.mem_cons.1 hx with rfl | hx
      · omega
      · exact digF_all f _ _ _ hn.1 (by omega) x hx
theorem digs_all {d b : Int} (h : 0 ≤ d) : ∀ x ∈ digs d b, 0 ≤ x ∧ x ≤ 35 := digF_all _ _ _ _ h (by omega)
/-- a number read out of digits: what is left with it -/
def par : List Int → Int → Int → Option (Int × List Int)
  | [], _, _ => none
  | d :: t, k, b => if d < thr k b then some (d, t) else (par t (k + 36) b).map fun r => (d + (36 - thr k b) * r.1, r.2)
theorem par_digF : ∀ (f : Nat) (q k b : Int) (rest : List Int), 0 ≤ q → q ≤ f → par (digF f q k b ++ rest) k b = some (q, rest)
  | 0, q, k, b, rest, h0, h1 => by
    have ht := thr_bd k b
    rw [digF]
    simp only [List.cons_append, List.nil_append, par]
    rw [if_pos (by omega)]
  | f + 1, q, k, b, rest, h0, h1 => by
    have ht := thr_bd k b
    rw [digF]
    split
    · rename_i hq
      simp only [List.cons_append, List.nil_append, par]
      rw [if_pos hq]
    · rename_i hq
      have hn := next_bd hq
      rw [List.cons_append, par, if_neg (by omega), par_digF f _ _ _ _ hn.1 (by omega)]
      simp only [Option.map_some, Option.some.injEq, Prod.mk.injEq, and_true]
      have := Int.emod_add_mul_ediv (q - thr k b) (36 - thr k b)
      omega
theorem par_digs {d b : Int} {rest : List Int} (h : 0 ≤ d) : par (digs d b ++ rest) 36 b = some (d, rest) := par_digF _ _ _ _ _ h (by omega)
/-- what is read as a number are its digits -/
theorem digF_par : ∀ (f : Nat) (l : List Int) (k b δ : Int) (rest : List Int), (∀ x ∈ l, 0 ≤ x ∧ x ≤ 35) → par l k b = some (δ, rest) → δ ≤ f → 0 ≤ δ ∧ l = digF f δ k b ++ rest
  | f, [], _, _, _, _, _, h, _ => by cases h
  | f, d :: t, k, b, δ, rest, ha, h, hf => by
    have ht := thr_bd k b
    have hd := ha d (by simp)
    rw [par] at h
    split at h
    · rename_i hq
      simp only [Option.some.injEq, Prod.mk.injEq] at h
      obtain ⟨rfl, rfl⟩ := h
      exact ⟨hd.1, by rw [digF_end hq]; rfl⟩
    · rename_i hq
      cases hp : par t (k + 36) b with
      | none => rw [hp] at h; cases h
      | some v =>
        obtain ⟨e, rest'⟩ := v
        rw [hp] at h
        simp only [Option.map_some, Option.some.injEq, Prod.mk.injEq] at h
        obtain ⟨rfl, rfl⟩ := h
        have he : 0 ≤ e := by
          obtain ⟨h1, _⟩ := digF_par e.toNat t (k + 36) b e rest' (fun x hx => ha x (by simp [hx])) hp (by omega)
          exact h1
        have hmul : e ≤ (36 - thr k b) * e := by
          have := Int.mul_le_mul_of_nonneg_right (show (1 : Int) ≤ 36 - thr k b by omega) he
          omega
        cases f with
        | zero => omega
        | succ f =>
          obtain ⟨_, h2⟩ := digF_par f t (k + 36) b e rest' (fun x hx => ha x (by simp [hx])) hp (by omega)
          refine ⟨by omega, ?_⟩
          have h3 : (d + (36 - thr k b) * e - thr k b) % (36 - thr k b) = d - thr k b := by
            rw [show d + (36 - thr k b) * e - thr k b = (d - thr k b) + (36 - thr k b) * e by omega, Int.add_mul_emod_self_left, Int.emod_eq_of_lt (by omega) (by omega)]
          have h4 : (d + (36 - thr k b) * e - thr k b) / (36 - thr k b) = e := by
            rw [show d + (36 - thr k b) * e - thr k b = (d - thr k b) + (36 - thr k b) * e by omega, Int.add_mul_ediv_left _ _ (by omega), Int.ediv_eq_zero_of_lt (by omega) (by omega)]
            omega
          rw [digF_more (by omega), h3, h4, h2, List.cons_append]
          rw [show thr k b + (d - thr k b) = d by omega]
theorem digs_par {l : List Int} {b δ : Int} {rest : List Int} (ha : ∀ x ∈ l, 0 ≤ x ∧ x ≤ 35) (h : par l 36 b = some (δ, rest)) : 0 ≤ δ ∧ l = digs δ b ++ rest := by
  have h1 := digF_par δ.toNat l 36 b δ rest ha h (by omega)
  exact h1
def ins (l : List Int) (p : Nat) (v : Int) : List Int := l.take p ++ v :: l.drop p
theorem ins_len {l : List Int} {p : Nat} {v : Int} : (ins l p v).length = l.length + 1 := by
  unfold ins
  rw [List.length_append, List.length_cons, List.length_take, List.length_drop]; omega
theorem ins_mid (a c : List Int) (v : Int) : ins (a ++ c) a.length v = a ++ v :: c := by
  unfold ins; simp
/-- what a run of deltas makes: the deltas, their digits, n, i, the bias, the runes -/
inductive Run (bas : List Int) : List Int → List Int → Int → Int → Int → List Int → Prop
  | start : Run bas [] [] 128 0 72 bas
  | step {ds o : List Int} {n i B : Int} {out : List Int} (δ : Int) : Run bas ds o n i B out → 0 ≤ δ →
    Run bas (ds ++ [δ]) (o ++ digs δ B) (n + (i + δ) / (out.length + 1)) ((i + δ) % (out.length + 1) + 1) (bias δ (out.length + 1) (i == 0)) (ins out ((i + δ) % (out.length + 1)).toNat (n + (i + δ) / (out.length + 1)))
/-- digits read, without any bound -/
def rd : Nat → List Int → Int → Int → Int → List Int → Option (List Int)
  | _, [], _, _, _, out => some out
  | 0, _ :: _, _, _, _, _ => none
  | f + 1, d :: t, n, i, B, out => match par (d :: t) 36 B with
    | none => none
    | some (δ, rest) => rd f rest (n + (i + δ) / (out.length + 1)) ((i + δ) % (out.length + 1) + 1) (bias δ (out.length + 1) (i == 0)) (ins out ((i + δ) % (out.length + 1)).toNat (n + (i + δ) / (out.length + 1)))
theorem digs_ne (d b : Int) : ∃ x t, digs d b = x :: t := by
  unfold digs
  cases d.toNat with
  | zero => exact ⟨d, [], rfl⟩
  | succ f =>
    rw [digF]
    split
    · exact ⟨_, _, rfl⟩
    · exact ⟨_, _, rfl⟩
theorem rd_nil (f : Nat) (n i B : Int) (out : List Int) : rd f [] n i B out = some out := by cases f <;> rfl
theorem rd_digs {f : Nat} {δ n i B : Int} {out rest : List Int} (h : 0 ≤ δ) : rd (f + 1) (digs δ B ++ rest) n i B out = rd f rest (n + (i + δ) / (out.length + 1)) ((i + δ) % (out.length + 1) + 1) (bias δ (out.length + 1) (i == 0)) (ins out ((i + δ) % (out.length + 1)).toNat (n + (i + δ) / (out.length + 1))) := by
  have hp := par_digs (b := B) (rest := rest) h
  obtain ⟨x, t, e⟩ := digs_ne δ B
  rw [e, List.cons_append] at hp ⊢
  rw [rd, hp]
theorem run_rd {bas ds o : List Int} {n i B : Int} {out : List Int} (h : Run bas ds o n i B out) : ∀ (f : Nat) (rest : List Int), rd (ds.length + f) (o ++ rest) 128 0 72 bas = rd f rest n i B out := by
  induction h with
  | start => intro f rest; simp
  | @step ds o n i B out δ hr h0 ih =>
    intro f rest
    rw [List.length_append, List.append_assoc, List.length_singleton]
    have := ih (f + 1) (digs δ B ++ rest)
    rw [rd_digs h0] at this
    rw [← this]
    congr 1
    omega
/-- the same digits make the same runes -/
theorem run_fun {bas ds o ds' : List Int} {n i B n' i' B' : Int} {out out' : List Int} (h : Run bas ds o n i B out) (h' : Run bas ds' o n' i' B' out') : out = out' := by
  have h1 := run_rd h ds'.length []
  have h2 := run_rd h' ds.length []
  rw [rd_nil] at h1 h2
  rw [Nat.add_comm ds'.length, h1] at h2
  exact Option.some.inj h2
theorem run_i {bas ds o : List Int} {n i B : Int} {out : List Int} (h : Run bas ds o n i B out) : (ds = [] ∧ i = 0) ∨ (ds ≠ [] ∧ 1 ≤ i) := by
  cases h with
  | start => exact .inl ⟨rfl, rfl⟩
  | step δ hr h0 =>
    refine .inr ⟨by simp, ?_⟩
    rename_i ds o n i B out
    have := Int.emod_nonneg (i + δ) (show ((out.length : Int) + 1) ≠ 0 by omega)
    omega
theorem run_len {bas ds o : List Int} {n i B : Int} {out : List Int} (h : Run bas ds o n i B out) : out.length = bas.length + ds.length := by
  induction h with
  | start => simp
  | step δ hr h0 ih => rw [ins_len, List.length_append, ih]; simp; omega
theorem run_all {bas ds o : List Int} {n i B : Int} {out : List Int} (h : Run bas ds o n i B out) : ∀ x ∈ o, 0 ≤ x ∧ x ≤ 35 := by
  induction h with
  | start => intro x hx; cases hx
  | step δ hr h0 ih =>
    intro x hx
    rcases List.mem_append.1 hx with hx | hx
    · exact ih x hx
    · exact digs_all h0 x hx
/-- where the last one stands that was put -/
def Shp (bas ds : List Int) (n i : Int) (out : List Int) : Prop :=
  128 ≤ n ∧ 0 ≤ i ∧ i ≤ out.length ∧ (∀ x ∈ out, x ≤ n) ∧ out.filter (· < 128) = bas ∧
  (ds = [] → out = bas ∧ n = 128 ∧ i = 0) ∧
  (ds ≠ [] → ∃ a c, out = a ++ n :: c ∧ (a.length : Int) + 1 = i ∧ (∀ x ∈ a, x ≤ n) ∧ (∀ x ∈ c, x < n))
theorem ins_parts {l : List Int} {p : Nat} {v : Int} : ∀ x, x ∈ ins l p v ↔ x = v ∨ x ∈ l := by
  intro x
  unfold ins
  rw [List.mem_append, List.mem_cons]
  have h : x ∈ l ↔ x ∈ l.take p ∨ x ∈ l.drop p := by
    rw [← List.mem_append, List.take_append_drop]
  rw [h]
  constructor
  · rintro (h | h | h)
    · exact .inr (.inl h)
    · exact .inl h
    · exact .inr (.inr h)
  · rintro (h | h | h)
    · exact .inr (.inl h)
    · exact .inl h
    · exact .inr (.inr h)
theorem run_shp {bas ds o : List Int} {n i B : Int} {out : List Int} (hb : ∀ x ∈ bas, x < 128) (h : Run bas ds o n i B out) : Shp bas ds n i out := by
  induction h with
  | start =>
    refine ⟨by omega, by omega, by omega, fun x hx => by have := hb x hx; omega, ?_, fun _ => ⟨rfl, rfl, rfl⟩, fun h => absurd rfl h⟩
    exact List.filter_eq_self.2 (fun x hx => by simpa using hb x hx)
  | step δ hr h0 ih =>
    rename_i ds o n i B out
    obtain ⟨s1, s2, s3, s4, s5, s6, s7⟩ := ih
    have hL : (0 : Int) < (out.length : Int) + 1 := by omega
    have q0 : 0 ≤ (i + δ) / ((out.length : Int) + 1) := Int.ediv_nonneg (by omega) (by omega)
    have m0 := Int.emod_nonneg (i + δ) (show ((out.length : Int) + 1) ≠ 0 by omega)
    have m1 := Int.emod_lt_of_pos (i + δ) hL
    have dm := Int.emod_add_mul_ediv (i + δ) ((out.length : Int) + 1)
    generalize hq : (i + δ) / ((out.length : Int) + 1) = q at *
    generalize hm : (i + δ) % ((out.length : Int) + 1) = m at *
    have hlen : (out.take m.toNat).length = m.toNat := by rw [List.length_take]; omega
    have hall : ∀ x ∈ ins out m.toNat (n + q), x ≤ n + q := by
      intro x hx
      rcases (ins_parts x).1 hx with rfl | hx
      · omega
      · have := s4 x hx; omega
    refine ⟨by omega, by omega, by rw [ins_len]; omega, hall, ?_, fun h => by simp at h, fun _ => ⟨out.take m.toNat, out.drop m.toNat, rfl, by rw [hlen]; omega, ?_, ?_⟩⟩
    · unfold ins
      rw [List.filter_append, List.filter_cons, if_neg (by simp; omega), ← List.filter_append, List.take_append_drop, s5]
    · intro x hx
      have := s4 x (List.mem_of_mem_take hx); omega
    · intro x hx
      by_cases hq0 : q = 0
      · subst hq0
        have him : i ≤ m := by rw [Int.mul_zero] at dm; omega
        have hxo := List.mem_of_mem_drop hx
        have hxn := s4 x hxo
        by_cases hds : ds = []
        · obtain ⟨e, e1, _⟩ := s6 hds
          rw [e] at hxo
          have := hb x hxo
          omega
        · obtain ⟨a, c, e, ea, _, ec⟩ := s7 hds
          rw [e, List.drop_append, List.drop_eq_nil_of_le (by omega), List.nil_append] at hx
          rw [show m.toNat - a.length = (m.toNat - a.length - 1) + 1 by omega, List.drop_succ_cons] at hx
          have := ec x (List.mem_of_mem_drop hx)
          omega
      · have := s4 x (List.mem_of_mem_drop hx); omega
theorem run_nil {bas ds o : List Int} {n i B : Int} {out : List Int} (h : Run bas ds o n i B out) (e : ds = []) : o = [] ∧ n = 128 ∧ i = 0 ∧ B = 72 := by
  cases h with
  | start => exact ⟨rfl, rfl, rfl, rfl⟩
  | step => simp at e
theorem last_max {a c a' c' : List Int} {n n' : Int} (h : a ++ n :: c = a' ++ n' :: c') (h1 : ∀ x ∈ a, x ≤ n) (h2 : ∀ x ∈ c, x < n) (h1' : ∀ x ∈ a', x ≤ n') (h2' : ∀ x ∈ c', x < n') : n = n' ∧ a = a' ∧ c = c' := by
  have e : n = n' := by
    have m1 : n ∈ a' ++ n' :: c' := by rw [← h]; simp
    have m2 : n' ∈ a ++ n :: c := by rw [h]; simp
    have g1 : n ≤ n' := by
      rcases List.mem_append.1 m1 with m | m
      · exact h1' n m
      · rcases List.mem_cons.1 m with m | m
        · omega
        · have := h2' n m; omega
    have g2 : n' ≤ n := by
      rcases List.mem_append.1 m2 with m | m
      · exact h1 n' m
      · rcases List.mem_cons.1 m with m | m
        · omega
        · have := h2 n' m; omega
    omega
  subst e
  refine ⟨rfl, ?_⟩
  rw [List.append_eq_append_iff] at h
  rcases h with ⟨z, hz, hc⟩ | ⟨z, hz, hc⟩
  · cases z with
    | nil =>
      simp only [List.append_nil, List.nil_append, List.cons.injEq, true_and] at hz hc
      exact ⟨hz.symm, hc⟩
    | cons y z =>
      exfalso
      simp only [List.cons_append, List.cons.injEq] at hc
      have := h2 n (by rw [hc.2]; simp)
      omega
  · cases z with
    | nil =>
      simp only [List.append_nil, List.nil_append, List.cons.injEq, true_and] at hz hc
      exact ⟨hz, hc.symm⟩
    | cons y z =>
      exfalso
      simp only [List.cons_append, List.cons.injEq] at hc
      have := h2' n (by rw [hc.2]; simp)
      omega
/-- the same runes come of the same deltas -/
theorem run_inj {bas bas' ds o ds' o' : List Int} {n i B n' i' B' : Int} {out : List Int} (hb : ∀ x ∈ bas, x < 128) (hb' : ∀ x ∈ bas', x < 128) (h : Run bas ds o n i B out) (h' : Run bas' ds' o' n' i' B' out) : bas = bas' ∧ ds = ds' ∧ o = o' ∧ n = n' ∧ i = i' ∧ B = B' := by
  have hbb : bas = bas' := by
    have := (run_shp hb h).2.2.2.2.1
    have := (run_shp hb' h').2.2.2.2.1
    simp_all
  subst hbb
  refine ⟨rfl, ?_⟩
  have hl : ds.length = ds'.length := by have := run_len h; have := run_len h'; omega
  generalize hk : ds.length = k at hl
  induction k generalizing ds o n i B ds' o' n' i' B' out with
  | zero =>
    have e1 : ds = [] := List.eq_nil_of_length_eq_zero hk
    have e2 : ds' = [] := List.eq_nil_of_length_eq_zero hl.symm
    obtain ⟨rfl, rfl, rfl, rfl⟩ := run_nil h e1
    obtain ⟨rfl, rfl, rfl, rfl⟩ := run_nil h' e2
    exact ⟨e1.trans e2.symm, rfl, rfl, rfl, rfl⟩
  | succ k ih =>
    have S := run_shp hb h
    have S' := run_shp hb h'
    have hne : ds ≠ [] := fun e => by rw [e] at hk; cases hk
    have hne' : ds' ≠ [] := fun e => by rw [e] at hl; cases hl
    generalize hout : out = out2 at h'
    cases h with
    | start => exact absurd rfl hne
    | step δ hr h0 =>
      rename_i dsA oA nA iA BA outA
      cases h' with
      | start => exact absurd rfl hne'
      | step δ' hr' h0' =>
        rename_i dsB oB nB iB BB outB
        have SA := run_shp hb hr
        have SB := run_shp hb hr'
        obtain ⟨a, c, e, ea, ha, hc⟩ := S.2.2.2.2.2.2 hne
        obtain ⟨a', c', e', ea', ha', hc'⟩ := S'.2.2.2.2.2.2 hne'
        have heq : a ++ (nA + (iA + δ) / (↑outA.length + 1)) :: c = a' ++ (nB + (iB + δ') / (↑outB.length + 1)) :: c' := e.symm.trans e'
        obtain ⟨en, rfl, rfl⟩ := last_max heq ha hc ha' hc'
        have hLA : (0 : Int) < (outA.length : Int) + 1 := by omega
        have hLB : (0 : Int) < (outB.length : Int) + 1 := by omega
        have mA := Int.emod_nonneg (iA + δ) (show ((outA.length : Int) + 1) ≠ 0 by omega)
        have mA1 := Int.emod_lt_of_pos (iA + δ) hLA
        have mB := Int.emod_nonneg (iB + δ') (show ((outB.length : Int) + 1) ≠ 0 by omega)
        have mB1 := Int.emod_lt_of_pos (iB + δ') hLB
        have eA : outA = a ++ c := by
          have h1 : outA.take ((iA + δ) % (↑outA.length + 1)).toNat ++ (nA + (iA + δ) / (↑outA.length + 1)) :: outA.drop ((iA + δ) % (↑outA.length + 1)).toNat = a ++ (nA + (iA + δ) / (↑outA.length + 1)) :: c := e
          have hl1 : (outA.take ((iA + δ) % (↑outA.length + 1)).toNat).length = a.length := by rw [List.length_take]; omega
          obtain ⟨g1, g2⟩ := List.append_inj h1 hl1
          simp only [List.cons.injEq, true_and] at g2
          rw [← g1, ← g2, List.take_append_drop]
        have eB : outB = a ++ c := by
          have h1 : outB.take ((iB + δ') % (↑outB.length + 1)).toNat ++ (nB + (iB + δ') / (↑outB.length + 1)) :: outB.drop ((iB + δ') % (↑outB.length + 1)).toNat = a ++ (nB + (iB + δ') / (↑outB.length + 1)) :: c := hout.symm.trans e'
          have hl1 : (outB.take ((iB + δ') % (↑outB.length + 1)).toNat).length = a.length := by rw [List.length_take]; omega
          obtain ⟨g1, g2⟩ := List.append_inj h1 hl1
          simp only [List.cons.injEq, true_and] at g2
          rw [← g1, ← g2, List.take_append_drop]
        have hkA : dsA.length = k := by rw [List.length_append] at hk; simpa using hk
        have hkB : k = dsB.length := by rw [List.length_append] at hl; simpa using hl
        have hAB : outA = outB := by rw [eA, eB]
        subst hAB
        obtain ⟨rfl, rfl, rfl, rfl, rfl⟩ := ih hr hr' hkA hkB
        have dA := Int.emod_add_mul_ediv (iA + δ) ((outA.length : Int) + 1)
        have dB := Int.emod_add_mul_ediv (iA + δ') ((outA.length : Int) + 1)
        have eq1 : (iA + δ) / ((outA.length : Int) + 1) = (iA + δ') / ((outA.length : Int) + 1) := by omega
        have em1 : (iA + δ) % ((outA.length : Int) + 1) = (iA + δ') % ((outA.length : Int) + 1) := by omega
        rw [eq1, em1] at dA
        have : δ = δ' := by omega
        subst this
        exact ⟨rfl, rfl, rfl, rfl, rfl⟩
end Go.Proofs.Ythdodmbopchfdaa.P
