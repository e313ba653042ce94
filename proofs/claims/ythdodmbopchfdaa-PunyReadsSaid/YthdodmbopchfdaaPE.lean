/-
  Plain mathematics for package puny (no program is named here): what is written, round by round, is a run of deltas that makes the runes. No conditions.
-/
import Derived.Test.YthdodmbopchfdaaPM
namespace Go.Proofs.Ythdodmbopchfdaa.P
structure St where
  o : List Int
  d : Int
  b : Int
  h : Int
/-- one rune of a round -/
def one (p m : Int) (s : St) (r : Int) : Option St :=
  if r < m then (if s.d + 1 ≤ 2147483647 then some ⟨s.o, s.d + 1, s.b, s.h⟩ else none)
  else if r = m then some ⟨s.o ++ digs s.d s.b, 0, bias s.d (s.h + 1) (s.h == p), s.h + 1⟩
  else some s
def scan (p m : Int) : St → List Int → Option St
  | s, [] => some s
  | s, r :: l => match one p m s r with
    | none => none
    | some s' => scan p m s' l
theorem scan_app (p m : Int) : ∀ (a c : List Int) (s : St), scan p m s (a ++ c) = (scan p m s a).bind fun s' => scan p m s' c
  | [], c, s => rfl
  | r :: a, c, s => by
    rw [List.cons_append, scan, scan]
    cases one p m s r with
    | none => rfl
    | some s' => exact scan_app p m a c s'
theorem scan_snoc (p m : Int) (l : List Int) (k : Nat) (h : k < l.length) (s sk : St) (hs : scan p m s (l.take k) = some sk) : scan p m s (l.take (k + 1)) = one p m sk l[k] := by
  rw [List.take_succ_eq_append_getElem h, scan_app, hs]
  show scan p m sk [l[k]] = _
  rw [scan]
  cases one p m sk l[k] with
  | none => rfl
  | some s' => rfl
theorem scan_none (p m : Int) (l : List Int) (k : Nat) (s : St) (h : scan p m s (l.take k) = none) : scan p m s l = none := by
  have e : scan p m s (l.take k ++ l.drop k) = none := by rw [scan_app, h]; rfl
  rwa [List.take_append_drop] at e
def least (n : Int) (l : List Int) : Int := l.foldl (fun m r => if n ≤ r then min m r else m) 2147483647
/-- a round: the least that is left, all that are it -/
def round (p n : Int) (l : List Int) (s : St) : Option St :=
  if s.d + (least n l - n) * (s.h + 1) ≤ 2147483647 then
    match scan p (least n l) ⟨s.o, s.d + (least n l - n) * (s.h + 1), s.b, s.h⟩ l with
    | none => none
    | some s' => if s'.d + 1 ≤ 2147483647 then some ⟨s'.o, s'.d + 1, s'.b, s'.h⟩ else none
  else none
def enc (p : Int) (l : List Int) : Nat → Int → St → Option (List Int)
  | 0, _, s => some s.o
  | f + 1, n, s => if s.h < l.length then (match round p n l s with
    | none => none
    | some s' => enc p l f (least n l + 1) s') else some s.o
def lt (n : Int) (l : List Int) : List Int := l.filter (fun x => decide (x < n))
theorem fold_least (n : Int) : ∀ (l : List Int) (a : Int), (l.foldl (fun m r => if n ≤ r then min m r else m) a ≤ a) ∧ (∀ r ∈ l, n ≤ r → l.foldl (fun m r => if n ≤ r then min m r else m) a ≤ r) ∧ (l.foldl (fun m r => if n ≤ r then min m r else m) a = a ∨ (l.foldl (fun m r => if n ≤ r then min m r else m) a ∈ l ∧ n ≤ l.foldl (fun m r => if n ≤ r then min m r else m) a))
  | [], a => ⟨Int.le_refl _, fun r h => (by cases h), .inl rfl⟩
  | x :: l, a => by
    rw [List.foldl_cons]
    obtain ⟨h1, h2, h3⟩ := fold_least n l (if n ≤ x then min a x else a)
    generalize hF : l.foldl (fun m r => if n ≤ r then min m r else m) (if n ≤ x then min a x else a) = F at *
    by_cases c : n ≤ x
    · rw [if_pos c] at h1 h3
      refine ⟨by omega, fun r hr hn => ?_, ?_⟩
      · rcases List.mem_cons.1 hr with rfl | hr
        · omega
        · exact h2 r hr hn
      · rcases h3 with h3 | ⟨h3, h4⟩
        · by_cases ca : a ≤ x
          · left; omega
          · right; exact ⟨by rw [show F = x by omega]; simp, by omega⟩
        · right; exact ⟨by simp [h3], h4⟩
    · rw [if_neg c] at h1 h3
      refine ⟨h1, fun r hr hn => ?_, ?_⟩
      · rcases List.mem_cons.1 hr with rfl | hr
        · omega
        · exact h2 r hr hn
      · rcases h3 with h3 | ⟨h3, h4⟩
        · left; exact h3
        · right; exact ⟨by simp [h3], h4⟩
theorem lt_full {n : Int} {l : List Int} (h : ∀ r ∈ l, r < n) : lt n l = l := by
  unfold lt
  exact List.filter_eq_self.2 (fun x hx => by simpa using h x hx)
theorem lt_len_le (n : Int) (l : List Int) : (lt n l).length ≤ l.length := List.length_filter_le _ _
/-- the least one, where one is left -/
theorem least_left {n : Int} {l : List Int} (hw : ∀ r ∈ l, r ≤ 1114111) (h : (lt n l).length < l.length) : n ≤ least n l ∧ least n l ∈ l ∧ ∀ r ∈ l, n ≤ r → least n l ≤ r := by
  obtain ⟨h1, h2, h3⟩ := fold_least n l 2147483647
  have hex : ∃ r ∈ l, n ≤ r := by
    apply Classical.byContradiction
    intro hc
    have : lt n l = l := lt_full (fun r hr => by
      apply Classical.byContradiction
      intro h; exact hc ⟨r, hr, by omega⟩)
    rw [this] at h; omega
  obtain ⟨r, hr, hn⟩ := hex
  have := hw r hr
  have := h2 r hr hn
  unfold least
  rcases h3 with h3 | ⟨h3, h4⟩
  · omega
  · exact ⟨h4, h3, h2⟩
theorem least_ge {n : Int} {l : List Int} (h : n ≤ 2147483647) : n ≤ least n l := by
  obtain ⟨h1, h2, h3⟩ := fold_least n l 2147483647
  unfold least
  rcases h3 with h3 | ⟨h3, h4⟩
  · omega
  · exact h4
def le (m : Int) (l : List Int) : List Int := l.filter (fun x => decide (x ≤ m))
theorem le_lt (m : Int) (l : List Int) : le m l = lt (m + 1) l := by
  unfold le lt
  congr 1
  funext x
  rw [decide_eq_decide]; omega
theorem lt_gap {n m : Int} {l : List Int} (h1 : n ≤ m) (h : ∀ r ∈ l, n ≤ r → m ≤ r) : lt n l = lt m l := by
  unfold lt
  apply List.filter_congr
  intro x hx
  rw [decide_eq_decide]
  constructor
  · intro; omega
  · intro hm
    apply Classical.byContradiction
    intro hc
    have := h x hx (by omega)
    omega
theorem lt_more {m : Int} {l : List Int} (h : m ∈ l) : (lt m l).length < (lt (m + 1) l).length := by
  induction l with
  | nil => cases h
  | cons x l ih =>
    have hle : (lt m l).length ≤ (lt (m + 1) l).length := by
      unfold lt
      rw [← List.countP_eq_length_filter, ← List.countP_eq_length_filter]
      apply List.countP_mono_left
      intro y _ hy
      simp only [decide_eq_true_eq] at hy ⊢; omega
    have e1 : lt m (x :: l) = if x < m then x :: lt m l else lt m l := by
      unfold lt; rw [List.filter_cons]; simp only [decide_eq_true_eq]
    have e2 : lt (m + 1) (x :: l) = if x < m + 1 then x :: lt (m + 1) l else lt (m + 1) l := by
      unfold lt; rw [List.filter_cons]; simp only [decide_eq_true_eq]
    rw [e1, e2]
    by_cases c : x = m
    · subst c
      rw [if_neg (by omega), if_pos (by omega)]
      simp only [List.length_cons]; omega
    · have := ih (by rcases List.mem_cons.1 h with e | h; · exact absurd e.symm c
                     · exact h)
      by_cases c2 : x < m
      · rw [if_pos c2, if_pos (by omega)]
        simp only [List.length_cons]; omega
      · rw [if_neg c2, if_neg (by omega)]
        exact this
/-- within a round, behind the runes pre, ahead of suf -/
def Mid (bas : List Int) (m : Int) (pre suf : List Int) (s : St) : Prop :=
  ∃ ds nd id, Run bas ds s.o nd id s.b (le m pre ++ lt m suf) ∧ nd ≤ m ∧ id + s.d = (m - nd) * ((le m pre ++ lt m suf).length + 1) + (le m pre).length ∧ s.h = (le m pre ++ lt m suf).length ∧ 0 ≤ s.d
theorem mid_one {bas : List Int} {m : Int} {pre suf : List Int} {r : Int} {s s' : St} (h : Mid bas m pre (r :: suf) s) (ho : one bas.length m s r = some s') : Mid bas m (pre ++ [r]) suf s' := by
  obtain ⟨ds, nd, id, hR, hn, he, hh, hd⟩ := h
  have a1 : le m (pre ++ [r]) = le m pre ++ if r ≤ m then [r] else [] := by
    unfold le; rw [List.filter_append, List.filter_cons, List.filter_nil]; simp only [decide_eq_true_eq]
  have a2 : lt m (r :: suf) = if r < m then r :: lt m suf else lt m suf := by
    unfold lt; rw [List.filter_cons]; simp only [decide_eq_true_eq]
  rw [one] at ho
  by_cases c1 : r < m
  · rw [if_pos c1] at ho
    split at ho
    · simp only [Option.some.injEq] at ho
      subst ho
      have e : le m (pre ++ [r]) ++ lt m suf = le m pre ++ lt m (r :: suf) := by
        rw [a1, a2, if_pos (by omega), if_pos c1]; simp
      refine ⟨ds, nd, id, by rw [e]; exact hR, hn, ?_, by rw [e]; exact hh, by dsimp only; omega⟩
      have el : ((le m (pre ++ [r])).length : Int) = (le m pre).length + 1 := by rw [a1, if_pos (by omega), List.length_append, List.length_singleton]; omega
      rw [e, el]
      show id + (s.d + 1) = _
      omega
    · cases ho
  · rw [if_neg c1] at ho
    by_cases c2 : r = m
    · rw [if_pos c2] at ho
      simp only [Option.some.injEq] at ho
      subst ho c2
      rw [if_neg c1] at a2
      rw [if_pos (by omega)] at a1
      rw [a2] at hR he hh
      have e : le r (pre ++ [r]) ++ lt r suf = le r pre ++ r :: lt r suf := by rw [a1]; simp
      generalize hL : le r pre ++ lt r suf = out at *
      have hplace : ((le r pre).length : Int) < out.length + 1 := by rw [← hL, List.length_append]; omega
      have hs := Run.step s.d hR hd
      have eq1 : (id + s.d) / ((out.length : Int) + 1) = r - nd := by
        rw [he, Int.mul_comm, Int.add_comm, Int.add_mul_ediv_left _ _ (by omega), Int.ediv_eq_zero_of_lt (by omega) hplace]; omega
      have em1 : (id + s.d) % ((out.length : Int) + 1) = (le r pre).length := by
        rw [he, Int.mul_comm, Int.add_comm, Int.add_mul_emod_self_left, Int.emod_eq_of_lt (by omega) hplace]
      rw [eq1, em1] at hs
      have hfirst : (id == 0) = (s.h == (bas.length : Int)) := by
        have hlen := run_len hR
        rcases run_i hR with ⟨h1, h2⟩ | ⟨h1, h2⟩
        · rw [h1] at hlen
          have : s.h = (bas.length : Int) := by rw [hh, hlen]; simp
          rw [h2, this]; simp
        · have : ds.length ≠ 0 := fun e => h1 (List.eq_nil_of_length_eq_zero e)
          have x1 : (id == 0) = false := by rw [beq_eq_false_iff_ne]; omega
          have x2 : (s.h == (bas.length : Int)) = false := by rw [beq_eq_false_iff_ne]; omega
          rw [x1, x2]
      have hins : ins out ((le r pre).length : Int).toNat (nd + (r - nd)) = le r pre ++ r :: lt r suf := by
        rw [← hL, Int.toNat_natCast, show nd + (r - nd) = r by omega]
        exact ins_mid _ _ _
      rw [hins, hfirst, ← hh, show nd + (r - nd) = r by omega] at hs
      refine ⟨ds ++ [s.d], r, _, by rw [e]; exact hs, by omega, ?_, ?_, by dsimp only; omega⟩
      · have el : ((le r (pre ++ [r])).length : Int) = (le r pre).length + 1 := by rw [a1, List.length_append, List.length_singleton]; omega
        rw [el, Int.sub_self, Int.zero_mul]
        show ((le r pre).length : Int) + 1 + 0 = _
        omega
      · rw [e]
        dsimp only
        rw [hh, ← hL]
        simp only [List.length_append, List.length_cons]
        omega
    · rw [if_neg c2] at ho
      simp only [Option.some.injEq] at ho
      subst ho
      rw [if_neg c1] at a2
      rw [if_neg (by omega), List.append_nil] at a1
      rw [a2] at hR he hh
      exact ⟨ds, nd, id, by rw [a1]; exact hR, hn, by rw [a1]; exact he, by rw [a1]; exact hh, hd⟩
theorem mid_scan {bas : List Int} {m : Int} : ∀ {suf pre : List Int} {s s' : St}, Mid bas m pre suf s → scan bas.length m s suf = some s' → Mid bas m (pre ++ suf) [] s'
  | [], pre, s, s', h, hs => by
    rw [scan] at hs
    simp only [Option.some.injEq] at hs
    subst hs
    simpa using h
  | r :: suf, pre, s, s', h, hs => by
    rw [scan] at hs
    cases ho : one bas.length m s r with
    | none => rw [ho] at hs; cases hs
    | some s1 =>
      rw [ho] at hs
      have := mid_scan (mid_one h ho) hs
      simpa using this
/-- ahead of a round -/
def Hd (bas l : List Int) (n : Int) (s : St) : Prop :=
  ∃ ds nd id, Run bas ds s.o nd id s.b (lt n l) ∧ nd ≤ n ∧ id + s.d = (n - nd) * ((lt n l).length + 1) ∧ s.h = (lt n l).length ∧ 0 ≤ s.d
theorem hd_start (l : List Int) : Hd (lt 128 l) l 128 ⟨[], 0, 72, (lt 128 l).length⟩ := ⟨[], 128, 0, Run.start, by omega, by simp, rfl, Int.le_refl 0⟩
/-- the round's start: the least one -/
theorem hd_mid {bas l : List Int} {n m : Int} {s : St} (h : Hd bas l n s) (h1 : n ≤ m) (h2 : ∀ r ∈ l, n ≤ r → m ≤ r) : Mid bas m [] l ⟨s.o, s.d + (m - n) * (s.h + 1), s.b, s.h⟩ := by
  obtain ⟨ds, nd, id, hR, hn, he, hh, hd⟩ := h
  have e := lt_gap h1 h2
  have e0 : le m [] ++ lt m l = lt n l := by rw [e]; rfl
  refine ⟨ds, nd, id, by rw [e0]; exact hR, by omega, ?_, by rw [e0]; exact hh, ?_⟩
  · rw [e0]
    dsimp only
    rw [hh]
    show id + (s.d + (m - n) * (((lt n l).length : Int) + 1)) = (m - nd) * (((lt n l).length : Int) + 1) + 0
    have : (m - nd) * (((lt n l).length : Int) + 1) = (m - n) * (((lt n l).length : Int) + 1) + (n - nd) * (((lt n l).length : Int) + 1) := by
      rw [← Int.add_mul]; congr 1; omega
    omega
  · dsimp only
    have := Int.mul_nonneg (show 0 ≤ m - n by omega) (show 0 ≤ s.h + 1 by omega)
    omega
theorem mid_hd {bas l : List Int} {m : Int} {s : St} (h : Mid bas m l [] s) : Hd bas l (m + 1) ⟨s.o, s.d + 1, s.b, s.h⟩ := by
  obtain ⟨ds, nd, id, hR, hn, he, hh, hd⟩ := h
  have e : le m l ++ lt m [] = lt (m + 1) l := by rw [← le_lt]; simp [lt]
  rw [e] at hR he hh
  have e2 := le_lt m l
  refine ⟨ds, nd, id, hR, by omega, ?_, hh, by dsimp only; omega⟩
  dsimp only
  rw [e2] at he
  have : (m + 1 - nd) * (((lt (m + 1) l).length : Int) + 1) = (m - nd) * (((lt (m + 1) l).length : Int) + 1) + (((lt (m + 1) l).length : Int) + 1) := by
    rw [show m + 1 - nd = (m - nd) + 1 by omega, Int.add_mul, Int.one_mul]
  omega
theorem one_d {p m r : Int} {s s1 : St} (h0 : 0 ≤ s.d) (ho : one p m s r = some s1) : 0 ≤ s1.d ∧ s1.d ≤ s.d + 1 := by
  rw [one] at ho
  by_cases c1 : r < m
  · rw [if_pos c1] at ho
    by_cases c2 : s.d + 1 ≤ 2147483647
    · rw [if_pos c2] at ho
      cases ho
      exact ⟨by show 0 ≤ s.d + 1; omega, Int.le_refl _⟩
    · rw [if_neg c2] at ho; cases ho
  · rw [if_neg c1] at ho
    by_cases c2 : r = m
    · rw [if_pos c2] at ho
      cases ho
      exact ⟨Int.le_refl _, by show 0 ≤ s.d + 1; omega⟩
    · rw [if_neg c2] at ho
      cases ho; omega
/-- a rune of the round's number is put, so delta is small behind it -/
theorem scan_small {p m : Int} : ∀ {l : List Int} {s s' : St}, 0 ≤ s.d → m ∈ l → scan p m s l = some s' → 0 ≤ s'.d ∧ s'.d ≤ l.length
  | [], _, _, _, h, _ => by cases h
  | r :: l, s, s', h0, h, hs => by
    have grow : ∀ {l : List Int} {s s' : St}, 0 ≤ s.d → scan p m s l = some s' → 0 ≤ s'.d ∧ s'.d ≤ s.d + l.length := by
      intro l
      induction l with
      | nil => intro s s' h0 hs; rw [scan] at hs; cases hs; simp; omega
      | cons x l ih =>
        intro s s' h0 hs
        rw [scan] at hs
        cases ho : one p m s x with
        | none => rw [ho] at hs; cases hs
        | some s1 =>
          rw [ho] at hs
          have hd1 : 0 ≤ s1.d ∧ s1.d ≤ s.d + 1 := one_d h0 ho
          have := ih hd1.1 hs
          simp only [List.length_cons]; omega
    rw [scan] at hs
    by_cases c : r = m
    · subst c
      have ho : one p r s r = some ⟨s.o ++ digs s.d s.b, 0, bias s.d (s.h + 1) (s.h == p), s.h + 1⟩ := by rw [one, if_neg (by omega), if_pos rfl]
      rw [ho] at hs
      have := grow (by exact Int.le_refl 0) hs
      dsimp only at this
      simp only [List.length_cons]; omega
    · cases ho : one p m s r with
      | none => rw [ho] at hs; cases hs
      | some s1 =>
        rw [ho] at hs
        have hd1 : 0 ≤ s1.d := (one_d h0 ho).1
        have := scan_small hd1 (by rcases List.mem_cons.1 h with e | h; · exact absurd e.symm c
                                   · exact h) hs
        simp only [List.length_cons]; omega
/-- a round that is not told to be too great: what holds behind it -/
theorem round_hd {bas l : List Int} {n : Int} {s s' : St} (hw : ∀ r ∈ l, r ≤ 1114111) (h : Hd bas l n s) (hl : s.h < l.length) (hr : round bas.length n l s = some s') : Hd bas l (least n l + 1) s' ∧ s.h < s'.h ∧ s'.d ≤ l.length + 1 ∧ n ≤ least n l ∧ least n l ≤ 1114111 := by
  have hh : s.h = (lt n l).length := by obtain ⟨_, _, _, _, _, _, hh, _⟩ := h; exact hh
  obtain ⟨g1, g2, g3⟩ := least_left hw (n := n) (by omega)
  have hm := hd_mid h g1 g3
  rw [round] at hr
  split at hr
  · cases hs : scan bas.length (least n l) ⟨s.o, s.d + (least n l - n) * (s.h + 1), s.b, s.h⟩ l with
    | none => rw [hs] at hr; cases hr
    | some s1 =>
      rw [hs] at hr
      dsimp only at hr
      have hd0 := scan_small (by obtain ⟨_, _, _, _, _, _, _, hd⟩ := hm; exact hd) g2 hs
      split at hr
      · simp only [Option.some.injEq] at hr
        subst hr
        have h2 := mid_hd (by simpa using mid_scan hm hs)
        refine ⟨h2, ?_, by dsimp only; omega, g1, hw _ g2⟩
        obtain ⟨_, _, _, _, _, _, hh2, _⟩ := h2
        dsimp only at hh2 ⊢
        have := lt_more g2
        have e := lt_gap g1 g3
        rw [hh2, hh, e]; omega
      · cases hr
  · cases hr
theorem enc_run {bas l : List Int} (hw : ∀ r ∈ l, r ≤ 1114111) : ∀ (f : Nat) (n : Int) (s : St) (o : List Int), Hd bas l n s → l.length ≤ f + s.h → enc bas.length l f n s = some o → ∃ ds nd id B, Run bas ds o nd id B l
  | 0, n, s, o, h, hf, he => by
    rw [enc] at he
    simp only [Option.some.injEq] at he
    subst he
    obtain ⟨ds, nd, id, hR, _, _, hh, _⟩ := h
    have hl := lt_len_le n l
    have hfull : lt n l = l := by
      unfold lt at hh hl ⊢
      exact List.filter_eq_self.2 (List.length_filter_eq_length_iff.1 (by omega))
    rw [hfull] at hR
    exact ⟨ds, nd, id, _, hR⟩
  | f + 1, n, s, o, h, hf, he => by
    rw [enc] at he
    split at he
    · rename_i hl
      cases hr : round bas.length n l s with
      | none => rw [hr] at he; cases he
      | some s' =>
        rw [hr] at he
        obtain ⟨h2, h3, _⟩ := round_hd hw h hl hr
        exact enc_run hw f _ s' o h2 (by omega) he
    · simp only [Option.some.injEq] at he
      subst he
      obtain ⟨ds, nd, id, hR, _, _, hh, _⟩ := h
      have hl := lt_len_le n l
      have hfull : lt n l = l := by
        unfold lt at hh hl ⊢
        exact List.filter_eq_self.2 (List.length_filter_eq_length_iff.1 (by omega))
      rw [hfull] at hR
      exact ⟨ds, nd, id, _, hR⟩
end Go.Proofs.Ythdodmbopchfdaa.P
