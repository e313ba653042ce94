import Derived.Test.YtbclodbneonipaaGreatCSM
import Derived.Test.YtbclodbneonipaaGreatRUM
import Derived.Test.YtbclodbneonipaaGreatDI0M
import Derived.Test.YtbclodbneonipaaGreatAP2M
namespace Go.Proofs.YtbclodbneonipaaGreat
open Go.RowKit N
def MapsNil (T : Tab) : Prop := ∀ x ∈ T.spans, ∀ n c, x.mv = .slice none n c → n = 0 ∧ c = 0
/-- what is known of a table that came in -/
structure Good (T : Tab) : Prop where
  f : Fit T
  p : PairWf T
  n : MapsNil T
def risesT (T : Tab) : Bool := riseF (-1) (T.spans.map fun x => (x.lo, x.hi)) && (riseF (-1) (T.classes.map fun x => (x.r, x.r)) && (riseF (-1) (T.pairs.map fun x => (x.r, x.r)) && (riseF (-1) (T.ways.map fun x => (x.lo, x.hi)) && (riseF (-1) (T.joins.map fun x => (x.lo, x.hi))))))
def bothB (l : List Pa) : Bool := l.all paB && distB l
def mayB (l : List Int) : Bool := decide (l.map U.rep = l)
/-- what Check answers -/
def chk (T : Tab) : Int := if longT T then 3 else if allB (T.spans.all spB) (T.classes.all clB) (bothB T.pairs) (T.ways.all wyB) (T.joins.all jnB) (risesT T) (mayB (runesT T)) then 0 else 2
theorem short_of {T : Tab} (h : longT T = false) : T.spans.length ≤ 1024 ∧ T.classes.length ≤ 1024 ∧ T.pairs.length ≤ 1024 ∧ T.ways.length ≤ 1024 ∧ T.joins.length ≤ 1024 := by
  simp only [longT, Bool.or_eq_false_iff, decide_eq_false_iff_not] at h
  omega
set_option maxHeartbeats 1000000 in
theorem check3 (q : TQ) (g : Nat) (b : Bool) (hb : bothB q.T.pairs = b) (w : World) (hG : Has w g (.cells q.cs 28)) (h : TabAt w q) (hl : longT q.T = false) (hg : Good q.T) :
    Calls Tryz.prog 60 #[.pointer (some ⟨g, 0, none⟩)] w fun e w' => e = .returned (.bool b) ∧ Below w.heap.size w w' := by
  have hs := short_of hl
  have hm : q.T.pairs.length ≤ maxLen := by unfold maxLen; omega
  have c0 : w.cell? ⟨g, 2, none⟩ = some q.v2 := hG.cell 2 rfl
  obtain ⟨b1, hb1⟩ : ∃ b1, q.T.pairs.all paB = b1 := ⟨_, rfl⟩
  obtain ⟨b2, hb2⟩ : ∃ b2, distB q.T.pairs = b2 := ⟨_, rfl⟩
  have HE := Lib.hid (every_pair paB q.v2 q.T.pairs b1 hb1 w hm h.p (fun x _ w => pairHolds x w))
  have HD : Hid (∀ w', Below w.heap.size w w' → Calls Tryz.prog 63 #[.slice q.p2 q.T.pairs.length q.c2] w' fun e w'' => e = .returned (.bool b2) ∧ Below w'.heap.size w' w'') := Lib.hid (fun w' hb => distinct_is q b2 hb2 w' hs.2.2.1 hg.p (h.below hb))
  have HB : Hid ((b1 && b2) = b) := Lib.hid (by rw [← hb1, ← hb2, ← hb]; rfl)
  have HG := Lib.hid hG
  unfold TQ.v2 at c0
  clear hb hG h hl hg hb1 hb2 hs hm
  go_enter Tryz.func60, Tryz.ntmps60
  go_wp2_with fail
  refine HE.out.mono ?_
  rintro e w1 ⟨rfl, hb1⟩
  have c1 : w1.cell? ⟨g, 2, none⟩ = some (.slice q.p2 q.T.pairs.length q.c2) := (HG.out.to hb1).cell 2 rfl
  have HB1 := Lib.hid hb1
  clear hb1 c0
  cases b1 with
  | false =>
    have HZ : Hid (b = false) := Lib.hid (by rw [← HB.out]; rfl)
    go_wp2
    go_ret
    exact ⟨by rw [HZ.out]; rfl, HB1.out⟩
  | true =>
    have HZ : Hid (b = b2) := Lib.hid (by rw [← HB.out]; rfl)
    go_wp2_with fail
    refine (HD.out _ HB1.out).mono ?_
    rintro e w2 ⟨rfl, hb2⟩
    go_wp2
    go_ret
    exact ⟨by rw [HZ.out]; rfl, bel2 HB1.out hb2⟩
theorem spB_map {x : Sp} (h : spB x = true) : x.map.length ≤ 8 := by
  unfold spB at h
  split at h
  · cases h
  · split at h
    · exact of_decide_eq_true h
    · have := of_decide_eq_true h; omega
theorem runesT_len {T : Tab} (hl : longT T = false) (hm : ∀ x ∈ T.spans, x.map.length ≤ 8) : (runesT T).length ≤ 30000 := by
  have hs := short_of hl
  have h1 := fm_len (f := spR) (c := 10) T.spans (fun x hx => by have := hm x hx; simp only [spR, List.length_cons]; omega)
  have h2 := fm_len (f := clR) (c := 1) T.classes (fun x _ => by simp [clR])
  have h3 := fm_len (f := paR) (c := 3) T.pairs (fun x _ => by simp [paR])
  have h4 := fm_len (f := sgR) (c := 2) T.ways (fun x _ => by simp [sgR])
  have h5 := fm_len (f := sgR) (c := 2) T.joins (fun x _ => by simp [sgR])
  unfold runesT
  simp only [List.length_append]
  omega
set_option maxHeartbeats 1000000 in
theorem check7 (q : TQ) (g : Nat) (b : Bool) (hb : mayB (runesT q.T) = b) (h1 : q.T.spans.all spB = true) (w : World) (hG : Has w g (.cells q.cs 28)) (h : TabAt w q) (hl : longT q.T = false) (hg : Good q.T) :
    Calls Tryz.prog 80 #[.pointer (some ⟨g, 0, none⟩)] w fun e w' => e = .returned (.bool b) ∧ Below w.heap.size w w' := by
  have hm : ∀ x ∈ q.T.spans, x.map.length ≤ 8 := fun x hx => spB_map (List.all_eq_true.1 h1 x hx)
  have m0 : w.cell? ⟨g, 0, none⟩ = some (.slice q.p0 q.T.spans.length q.c0) := hG.cell 0 rfl
  have m1 : w.cell? ⟨g, 1, none⟩ = some (.slice q.p1 q.T.classes.length q.c1) := hG.cell 1 rfl
  have m2 : w.cell? ⟨g, 2, none⟩ = some (.slice q.p2 q.T.pairs.length q.c2) := hG.cell 2 rfl
  have m3 : w.cell? ⟨g, 3, none⟩ = some (.slice q.p3 q.T.ways.length q.c3) := hG.cell 3 rfl
  have m4 : w.cell? ⟨g, 4, none⟩ = some (.slice q.p4 q.T.joins.length q.c4) := hG.cell 4 rfl
  obtain ⟨L, hL⟩ : ∃ L, runesT q.T = L := ⟨_, rfl⟩
  have hLl : L.length ≤ 30000 := by rw [← hL]; exact runesT_len hl hm
  have HR := Lib.hid (runes_is q L hL w (short_of hl) hm hg.n h)
  rw [hL] at hb
  have HB := Lib.hid hb
  clear hb hG h hl hg hm h1 hL
  go_enter Tryz.func80, Tryz.ntmps80
  go_wp2_with fail
  refine HR.out.mono ?_
  rintro e w1 ⟨v, rfl, ho, hb1⟩
  have HO := Lib.hid ho.at
  have HB1 := Lib.hid hb1
  clear ho hb1 m0 m1 m2 m3 m4
  go_wp2_with fail
  refine (mayBe_is v L b HB.out (by omega) _ HO.out).mono ?_
  rintro e w2 ⟨rfl, hb2⟩
  go_wp2
  go_ret
  exact ⟨rfl, bel2 HB1.out hb2⟩
/-- tables.Check -/
theorem check_is (q : TQ) (c : Int) (hc : chk q.T = c) (w : World) (hT : TabAt w q) (hg : Good q.T) : Calls Tryz.prog 21 #[q.v] w fun e w' => e = .returned (.int .i64 c) ∧ Below w.heap.size w w' := by
  subst hc
  unfold chk
  cases hl : longT q.T with
  | true => exact check_long q hl w hg.f
  | false =>
    exact check_short q hl _ _ (bothB q.T.pairs) _ _ _ (mayB (runesT q.T)) w hg.f hT rfl rfl rfl rfl rfl (fun g w' h1 h2 => check3 q g _ rfl w' h1 h2 hl hg) (fun hb g w' h1 h2 => check7 q g _ rfl hb w' h1 h2 hl hg)
theorem chk_vals (T : Tab) : chk T = 0 ∨ chk T = 2 ∨ chk T = 3 := by
  unfold chk
  split
  · exact .inr (.inr rfl)
  · split
    · exact .inl rfl
    · exact .inr (.inl rfl)
end Go.Proofs.YtbclodbneonipaaGreat
/-
  Mathematics of the document's Check (tables): the same as the program's.
-/
namespace Go.Proofs.YtbclodbneonipaaGreat
open Go.RowKit N
/-! ### the document's Check -/
/-- a segment of runes, and where the last one ended -/
def okE (last : Option Int) (lo hi : Int) : Prop := lo ≤ hi ∧ U.May lo ∧ U.May hi ∧ ¬ (lo < 55296 ∧ 57343 < hi) ∧ ∀ p, last = some p → p < lo
instance (last : Option Int) (lo hi : Int) : Decidable (okE last lo hi) := by
  unfold okE
  cases last with
  | none => exact decidable_of_iff (lo ≤ hi ∧ U.May lo ∧ U.May hi ∧ ¬ (lo < 55296 ∧ 57343 < hi)) ⟨fun h => ⟨h.1, h.2.1, h.2.2.1, h.2.2.2, fun p hp => by cases hp⟩, fun h => ⟨h.1, h.2.1, h.2.2.1, h.2.2.2.1⟩⟩
  | some q => exact decidable_of_iff (lo ≤ hi ∧ U.May lo ∧ U.May hi ∧ ¬ (lo < 55296 ∧ 57343 < hi) ∧ q < lo) ⟨fun h => ⟨h.1, h.2.1, h.2.2.1, h.2.2.2.1, fun p hp => by cases hp; exact h.2.2.2.2⟩, fun h => ⟨h.1, h.2.1, h.2.2.1, h.2.2.2.1, h.2.2.2.2 q rfl⟩⟩
def segs {α : Type} (ends : α → Int × Int) (ok : α → Bool) : Option Int → List α → Bool
  | _, [] => true
  | last, x :: l => decide (okE last (ends x).1 (ends x).2) && (ok x && segs ends ok (some (ends x).2) l)
theorem rise_cons (p : Int) (y : Int × Int) (l : List (Int × Int)) : riseF p (y :: l) = if y.1 ≤ p ∨ y.2 < y.1 ∨ (y.1 < 55296 ∧ 57343 < y.2) then false else riseF y.2 l := rfl
theorem segs_some {α : Type} (ends : α → Int × Int) (ok : α → Bool) : ∀ (l : List α) (p : Int), segs ends ok (some p) l = true ↔ (l.all ok = true ∧ riseF p (l.map ends) = true ∧ ∀ x ∈ l, U.May (ends x).1 ∧ U.May (ends x).2)
  | [], p => by simp [segs, riseF]
  | x :: l, p => by
    rw [segs, Bool.and_eq_true, Bool.and_eq_true, decide_eq_true_eq, segs_some ends ok l, List.all_cons, Bool.and_eq_true, List.map_cons, rise_cons]
    constructor
    · rintro ⟨⟨h1, h2, h3, h4, h5⟩, h6, h7, h8, h9⟩
      have := h5 p rfl
      refine ⟨⟨h6, h7⟩, ?_, fun y hy => ?_⟩
      · rw [if_neg (by omega)]; exact h8
      · rcases List.mem_cons.1 hy with rfl | hy
        · exact ⟨h2, h3⟩
        · exact h9 y hy
    · rintro ⟨⟨h6, h7⟩, h8, h9⟩
      by_cases hc : (ends x).1 ≤ p ∨ (ends x).2 < (ends x).1 ∨ (ends x).1 < 55296 ∧ 57343 < (ends x).2
      · rw [if_pos hc] at h8; cases h8
      · rw [if_neg hc] at h8
        obtain ⟨h2, h3⟩ := h9 x (by simp)
        exact ⟨⟨by omega, h2, h3, by omega, fun q hq => by cases hq; omega⟩, h6, h7, h8, fun y hy => h9 y (by simp [hy])⟩
theorem may_pos {r : Int} (h : U.May r) : 0 ≤ r := by unfold U.May at h; omega
theorem segs_none {α : Type} (ends : α → Int × Int) (ok : α → Bool) (l : List α) : segs ends ok none l = true ↔ (l.all ok = true ∧ riseF (-1) (l.map ends) = true ∧ ∀ x ∈ l, U.May (ends x).1 ∧ U.May (ends x).2) := by
  cases l with
  | nil => simp [segs, riseF]
  | cons x l =>
    rw [← segs_some, segs, segs]
    have key : (decide (okE none (ends x).1 (ends x).2)) = decide (okE (some (-1)) (ends x).1 (ends x).2) := by
      apply decide_eq_decide.2
      unfold okE
      constructor
      · rintro ⟨h1, h2, h3, h4, _⟩
        exact ⟨h1, h2, h3, h4, fun q hq => by cases hq; have := may_pos h2; omega⟩
      · rintro ⟨h1, h2, h3, h4, _⟩
        exact ⟨h1, h2, h3, h4, fun q hq => by cases hq⟩
    rw [key]
def okSp (x : Sp) : Bool := decide (x.st < 4) && (decide (x.map.length ≤ 8) && ((decide (x.map.length = 0) || decide (x.st = 2)) && x.map.all fun r => decide (U.May r)))
def okPa (x : Pa) : Bool := decide (U.May x.a) && (decide (U.May x.b) && (decide (x.a < x.r) && (decide (x.b < x.r) && (decide (x.b ≠ 0) || x.one))))
/-- two pairs that come together as one -/
def clash (x y : Pa) : Bool := !x.one && (!y.one && (decide (x.a = y.a) && decide (x.b = y.b)))
/-- the pairs, each beside those ahead of it -/
def pairsR : List Pa → List Pa → Bool
  | _, [] => true
  | done, x :: l => (!(done.any (clash x))) && pairsR (done ++ [x]) l
def spansD (l : List Sp) : Bool := segs (fun x => (x.lo, x.hi)) okSp none l
def classesD (l : List Cl) : Bool := segs (fun x => (x.r, x.r)) clB none l
def pairsD (l : List Pa) : Bool := segs (fun x => (x.r, x.r)) okPa none l && pairsR [] l
def waysD (l : List Sg) : Bool := segs (fun x => (x.lo, x.hi)) wyB none l
def joinsD (l : List Sg) : Bool := segs (fun x => (x.lo, x.hi)) jnB none l
/-- what the document's Check answers -/
def chkD (T : Tab) : Int := if longT T then 3 else if (spansD T.spans && (classesD T.classes && (pairsD T.pairs && (waysD T.ways && joinsD T.joins)))) = true then 0 else 2
theorem rep_may {r : Int} : U.rep r = r ↔ U.May r := by
  unfold U.rep
  constructor
  · intro h
    by_cases hm : U.May r
    · exact hm
    · rw [if_neg hm] at h
      subst h
      exact absurd (by unfold U.May; omega) hm
  · intro h; rw [if_pos h]
theorem mayB_iff (l : List Int) : mayB l = true ↔ ∀ r ∈ l, U.May r := by
  unfold mayB
  rw [decide_eq_true_eq]
  induction l with
  | nil => simp
  | cons r l ih =>
    rw [List.map_cons, List.cons.injEq, ih, rep_may]
    simp
theorem okSp_iff (x : Sp) : okSp x = true ↔ (spB x = true ∧ ∀ r ∈ x.map, U.May r) := by
  unfold okSp spB
  simp only [Bool.and_eq_true, Bool.or_eq_true, decide_eq_true_eq, List.all_eq_true]
  by_cases h4 : 4 ≤ x.st
  · rw [if_pos h4]
    constructor
    · rintro ⟨h, _⟩; omega
    · rintro ⟨h, _⟩; cases h
  · rw [if_neg h4]
    by_cases h2 : x.st = 2
    · rw [if_pos h2, decide_eq_true_eq]
      exact ⟨fun h => ⟨h.2.1, h.2.2.2⟩, fun h => ⟨by omega, h.1, .inr h2, h.2⟩⟩
    · rw [if_neg h2, decide_eq_true_eq]
      refine ⟨fun h => ⟨?_, h.2.2.2⟩, fun h => ⟨by omega, by omega, .inl h.1, h.2⟩⟩
      rcases h.2.2.1 with h | h
      · exact h
      · exact absurd h h2
theorem okPa_iff (x : Pa) : okPa x = true ↔ (paB x = true ∧ U.May x.a ∧ U.May x.b) := by
  unfold okPa paB
  simp only [Bool.and_eq_true, decide_eq_true_eq]
  exact ⟨fun h => ⟨h.2.2, h.1, h.2.1⟩, fun h => ⟨h.2.1, h.2.2, h.1⟩⟩
theorem distP_app (a b : List Pa) : distP (a ++ b) = distP a ++ distP b := by unfold distP; rw [List.filter_append, List.map_append]
theorem clash_mem (x : Pa) (done : List Pa) (hx : x.one = false) : done.any (clash x) = true ↔ (x.a, x.b) ∈ distP done := by
  unfold distP clash
  rw [List.any_eq_true]
  simp only [hx, Bool.not_false, Bool.true_and, Bool.and_eq_true, decide_eq_true_eq, List.mem_map, List.mem_filter, Bool.not_eq_true']
  constructor
  · rintro ⟨y, hy, ho, ha, hb⟩
    exact ⟨y, ⟨hy, ho⟩, by rw [ha, hb]⟩
  · rintro ⟨y, ⟨hy, ho⟩, e⟩
    simp only [Prod.mk.injEq] at e
    exact ⟨y, hy, ho, e.1.symm, e.2.symm⟩
theorem pairsR_iff : ∀ (l done : List Pa), (distP done).Nodup → (pairsR done l = true ↔ (distP (done ++ l)).Nodup)
  | [], done, h => by simp [pairsR, h]
  | x :: l, done, h => by
    rw [pairsR, Bool.and_eq_true]
    have hap : done ++ x :: l = (done ++ [x]) ++ l := by simp
    rw [hap]
    cases hx : x.one with
    | true =>
      have hd : distP (done ++ [x]) = distP done := by unfold distP; simp [hx]
      have hc : done.any (clash x) = false := by
        rw [List.any_eq_false]
        intro y _
        unfold clash
        rw [hx]; simp
      rw [hc]
      rw [pairsR_iff l (done ++ [x]) (by rw [hd]; exact h)]
      simp
    | false =>
      have hd : distP (done ++ [x]) = distP done ++ [(x.a, x.b)] := by unfold distP; simp [hx]
      have hc := clash_mem x done hx
      by_cases hm : (x.a, x.b) ∈ distP done
      · rw [hc.2 hm]
        constructor
        · rintro ⟨h, _⟩; cases h
        · intro hn
          rw [distP_app, hd] at hn
          have h2 := (List.nodup_append.1 hn).1
          exact absurd rfl ((List.nodup_append.1 h2).2.2 _ hm _ (by simp))
      · have hf : done.any (clash x) = false := Bool.eq_false_iff.2 (fun h => hm (hc.1 h))
        have hn2 : (distP (done ++ [x])).Nodup := by
          rw [hd]
          refine List.nodup_append.2 ⟨h, by simp, fun a ha b hb e => ?_⟩
          rw [List.mem_singleton] at hb
          subst hb; subst e; exact hm ha
        rw [hf, pairsR_iff l (done ++ [x]) hn2]
        simp
theorem chk_eq (T : Tab) : chkD T = chk T := by
  unfold chkD chk
  by_cases hl : longT T = true
  · rw [if_pos hl, if_pos hl]
  rw [if_neg hl, if_neg hl]
  have key : (spansD T.spans && (classesD T.classes && (pairsD T.pairs && (waysD T.ways && joinsD T.joins)))) = allB (T.spans.all spB) (T.classes.all clB) (bothB T.pairs) (T.ways.all wyB) (T.joins.all jnB) (risesT T) (mayB (runesT T)) := by
    rw [Bool.eq_iff_iff]
    unfold spansD classesD pairsD waysD joinsD allB risesT bothB
    simp only [Bool.and_eq_true]
    rw [segs_none, segs_none, segs_none, segs_none, segs_none, mayB_iff]
    have hd := pairsR_iff T.pairs [] (by simp [distP])
    rw [List.nil_append] at hd
    rw [hd]
    unfold distB
    rw [decide_eq_true_eq]
    have hsp : T.spans.all okSp = true ↔ (T.spans.all spB = true ∧ ∀ x ∈ T.spans, ∀ r ∈ x.map, U.May r) := by
      simp only [List.all_eq_true]
      constructor
      · intro h; exact ⟨fun x hx => ((okSp_iff x).1 (h x hx)).1, fun x hx => ((okSp_iff x).1 (h x hx)).2⟩
      · rintro ⟨h1, h2⟩ x hx; exact (okSp_iff x).2 ⟨h1 x hx, h2 x hx⟩
    have hpa : T.pairs.all okPa = true ↔ (T.pairs.all paB = true ∧ ∀ x ∈ T.pairs, U.May x.a ∧ U.May x.b) := by
      simp only [List.all_eq_true]
      constructor
      · intro h; exact ⟨fun x hx => ((okPa_iff x).1 (h x hx)).1, fun x hx => ((okPa_iff x).1 (h x hx)).2⟩
      · rintro ⟨h1, h2⟩ x hx; exact (okPa_iff x).2 ⟨h1 x hx, h2 x hx⟩
    rw [hsp, hpa]
    have hr : (∀ r ∈ runesT T, U.May r) ↔ ((∀ x ∈ T.spans, (U.May x.lo ∧ U.May x.hi) ∧ ∀ r ∈ x.map, U.May r) ∧ (∀ x ∈ T.classes, U.May x.r) ∧ (∀ x ∈ T.pairs, U.May x.r ∧ U.May x.a ∧ U.May x.b) ∧ (∀ x ∈ T.ways, U.May x.lo ∧ U.May x.hi) ∧ (∀ x ∈ T.joins, U.May x.lo ∧ U.May x.hi)) := by
      unfold runesT
      simp only [List.mem_append, List.mem_flatMap]
      constructor
      · intro h
        refine ⟨fun x hx => ⟨⟨h _ (.inl (.inl (.inl (.inl ⟨x, hx, by simp [spR]⟩)))), h _ (.inl (.inl (.inl (.inl ⟨x, hx, by simp [spR]⟩))))⟩, fun r hr => h r (.inl (.inl (.inl (.inl ⟨x, hx, by simp [spR, hr]⟩))))⟩, fun x hx => h _ (.inl (.inl (.inl (.inr ⟨x, hx, by simp [clR]⟩)))), fun x hx => ⟨h _ (.inl (.inl (.inr ⟨x, hx, by simp [paR]⟩))), h _ (.inl (.inl (.inr ⟨x, hx, by simp [paR]⟩))), h _ (.inl (.inl (.inr ⟨x, hx, by simp [paR]⟩)))⟩, fun x hx => ⟨h _ (.inl (.inr ⟨x, hx, by simp [sgR]⟩)), h _ (.inl (.inr ⟨x, hx, by simp [sgR]⟩))⟩, fun x hx => ⟨h _ (.inr ⟨x, hx, by simp [sgR]⟩), h _ (.inr ⟨x, hx, by simp [sgR]⟩)⟩⟩
      · rintro ⟨h1, h2, h3, h4, h5⟩ r hr
        rcases hr with (((⟨x, hx, hr⟩ | ⟨x, hx, hr⟩) | ⟨x, hx, hr⟩) | ⟨x, hx, hr⟩) | ⟨x, hx, hr⟩
        · simp only [spR, List.mem_cons] at hr
          rcases hr with rfl | rfl | hr
          · exact (h1 x hx).1.1
          · exact (h1 x hx).1.2
          · exact (h1 x hx).2 r hr
        · simp only [clR, List.mem_singleton] at hr
          rw [hr]; exact h2 x hx
        · simp only [paR, List.mem_cons, List.not_mem_nil, or_false] at hr
          rcases hr with rfl | rfl | rfl
          · exact (h3 x hx).1
          · exact (h3 x hx).2.1
          · exact (h3 x hx).2.2
        · simp only [sgR, List.mem_cons, List.not_mem_nil, or_false] at hr
          rcases hr with rfl | rfl
          · exact (h4 x hx).1
          · exact (h4 x hx).2
        · simp only [sgR, List.mem_cons, List.not_mem_nil, or_false] at hr
          rcases hr with rfl | rfl
          · exact (h5 x hx).1
          · exact (h5 x hx).2
    rw [hr]
    constructor
    · rintro ⟨⟨⟨a1, a2⟩, a3, a4⟩, ⟨b1, b2, b3⟩, ⟨⟨⟨c1, c2⟩, c3, c4⟩, c5⟩, ⟨d1, d2, d3⟩, e1, e2, e3⟩
      exact ⟨a1, b1, ⟨c1, c5⟩, d1, e1, ⟨a3, b2, c3, d2, e2⟩, fun x hx => ⟨a4 x hx, a2 x hx⟩, fun x hx => (b3 x hx).1, fun x hx => ⟨(c4 x hx).1, c2 x hx⟩, d3, e3⟩
    · rintro ⟨a1, b1, ⟨c1, c5⟩, d1, e1, ⟨a3, b2, c3, d2, e2⟩, h1, h2, h3, h4, h5⟩
      exact ⟨⟨⟨a1, fun x hx => (h1 x hx).2⟩, a3, fun x hx => (h1 x hx).1⟩, ⟨b1, b2, fun x hx => ⟨h2 x hx, h2 x hx⟩⟩, ⟨⟨⟨c1, fun x hx => (h3 x hx).2⟩, c3, fun x hx => ⟨(h3 x hx).1, (h3 x hx).1⟩⟩, c5⟩, ⟨d1, d2, h4⟩, e1, e2, h5⟩
  rw [key]
end Go.Proofs.YtbclodbneonipaaGreat
/-
  Mathematics of the document's many (nfc).
-/
namespace Go.Proofs.YtbclodbneonipaaGreat
open Go.RowKit N
/-- how many runes come of one, as the document's answer counts them: at most more than there may be -/
def manyR (l : List Pa) : Nat → Int → Int → Int
  | 0, _, _ => 1
  | n + 1, r, left => if left < 0 then 1 else if syl r = true then ((split r).length : Nat) else match prL l r with
    | none => 1
    | some p => if p.b = 0 then manyR l n p.a left else manyR l n p.a left + manyR l n p.b (left - manyR l n p.a left)
theorem many_pos (l : List Pa) : ∀ (n : Nat) (r left : Int), 1 ≤ manyR l n r left
  | 0, _, _ => Int.le_refl _
  | n + 1, r, left => by
    rw [manyR]
    split
    · exact Int.le_refl _
    · split
      · unfold split; split <;> simp
      · split
        · exact Int.le_refl _
        · rename_i p _
          have h1 := many_pos l n p.a left
          have h2 := many_pos l n p.b (left - manyR l n p.a left)
          split <;> omega
/-- it is right as far as it goes -/
theorem many_is (l : List Pa) : ∀ (n : Nat) (r left : Int), 0 ≤ left → ((((ap l n r).length : Nat) : Int) ≤ left → manyR l n r left = ((ap l n r).length : Nat)) ∧ (left < (((ap l n r).length : Nat) : Int) → left < manyR l n r left)
  | 0, r, left, h => by
    rw [manyR, ap]
    exact ⟨fun _ => rfl, fun h => h⟩
  | n + 1, r, left, h => by
    rw [manyR, ap, if_neg (show ¬ left < 0 by omega)]
    by_cases hs : syl r = true
    · rw [if_pos hs, if_pos hs]
      exact ⟨fun _ => rfl, fun h => h⟩
    · rw [if_neg hs, if_neg hs]
      cases hp : prL l r with
      | none => exact ⟨fun _ => rfl, fun h => h⟩
      | some p =>
        simp only
        obtain ⟨a1, a2⟩ := many_is l n p.a left h
        by_cases hb : p.b = 0
        · rw [if_pos hb, if_pos hb, List.append_nil]
          exact ⟨a1, a2⟩
        · rw [if_neg hb, if_neg hb, List.length_append]
          by_cases ha : (((ap l n p.a).length : Nat) : Int) ≤ left
          · rw [a1 ha]
            obtain ⟨b1, b2⟩ := many_is l n p.b (left - ((ap l n p.a).length : Nat)) (by omega)
            constructor
            · intro hle
              rw [b1 (by omega)]
              omega
            · intro hlt
              have := b2 (by omega)
              omega
          · have h1 := a2 (by omega)
            have h2 := many_pos l n p.b (left - manyR l n p.a left)
            exact ⟨fun hle => by omega, fun _ => by omega⟩
end Go.Proofs.YtbclodbneonipaaGreat
/-
  Mathematics of the document's Together (nfc): the same as the program's.
-/
namespace Go.Proofs.YtbclodbneonipaaGreat
open Go.RowKit N
/-- the class of what was put last, as the document's answer asks it -/
def lastC (T : Tab) (out : List Int) : Int := match out.getLast? with | some x => cls T x | none => 0
/-- one rune more, as the document's answer puts it -/
def rstep (T : Tab) (o : List Int × Int) (r : Int) : List Int × Int :=
  if 0 ≤ o.2 ∧ (o.2 = (o.1.length : Int) - 1 ∨ (lastC T o.1 ≠ 0 ∧ lastC T o.1 < cls T r)) then
    match both T (o.1.getD o.2.toNat 0) r with
    | some x => (o.1.set o.2.toNat x, o.2)
    | none => (o.1 ++ [r], if cls T r = 0 then (o.1.length : Int) else o.2)
  else (o.1 ++ [r], if cls T r = 0 then (o.1.length : Int) else o.2)
/-- what holds of the program's state -/
def TgI (T : Tab) (g : Tg) : Prop := g.st < (g.out.length : Int) ∧ (0 ≤ g.st → g.st ≠ (g.out.length : Int) - 1 → g.last = lastC T g.out ∧ g.last ≠ 0)
theorem lastC_snoc (T : Tab) (l : List Int) (r : Int) : lastC T (l ++ [r]) = cls T r := by unfold lastC; simp
theorem push_I {T : Tab} {g : Tg} (h : TgI T g) (r : Int) : TgI T (push g r (cls T r)) := by
  unfold push TgI
  simp only [List.length_append, List.length_singleton, lastC_snoc]
  obtain ⟨h1, _⟩ := h
  by_cases hc : cls T r = 0
  · rw [if_pos hc]
    exact ⟨by omega, fun _ h => absurd (by omega) h⟩
  · rw [if_neg hc]
    exact ⟨by omega, fun _ _ => ⟨trivial, hc⟩⟩
theorem set_last (T : Tab) (l : List Int) (i : Nat) (x : Int) (h : i + 1 < l.length) : lastC T (l.set i x) = lastC T l := by
  unfold lastC
  rw [List.getLast?_eq_getElem?, List.getLast?_eq_getElem?, List.length_set, List.getElem?_set_ne (by omega)]
theorem tstep_I {T : Tab} {g : Tg} (h : TgI T g) (r : Int) : TgI T (tstep T g r) := by
  unfold tstep
  split
  · split
    · rename_i x _
      obtain ⟨h1, h2⟩ := h
      unfold TgI
      simp only [List.length_set]
      refine ⟨h1, fun a b => ?_⟩
      rw [set_last T _ _ _ (by omega)]
      exact h2 a b
    · exact push_I h r
  · exact push_I h r
theorem tstep_r {T : Tab} {g : Tg} (h : TgI T g) (r : Int) : rstep T (g.out, g.st) r = ((tstep T g r).out, (tstep T g r).st) := by
  unfold rstep tstep
  simp only
  have hcond : (0 ≤ g.st ∧ (g.st = (g.out.length : Int) - 1 ∨ (lastC T g.out ≠ 0 ∧ lastC T g.out < cls T r))) ↔ (0 ≤ g.st ∧ (g.st = (g.out.length : Int) - 1 ∨ g.last < cls T r)) := by
    constructor
    · rintro ⟨a, b⟩
      refine ⟨a, ?_⟩
      by_cases he : g.st = (g.out.length : Int) - 1
      · exact .inl he
      · obtain ⟨h1, h2⟩ := h.2 a he
        rcases b with b | b
        · exact .inl b
        · exact .inr (by rw [h1]; exact b.2)
    · rintro ⟨a, b⟩
      refine ⟨a, ?_⟩
      by_cases he : g.st = (g.out.length : Int) - 1
      · exact .inl he
      · obtain ⟨h1, h2⟩ := h.2 a he
        rcases b with b | b
        · exact .inl b
        · exact .inr ⟨by rw [← h1]; exact h2, by rw [← h1]; exact b⟩
  by_cases hc : 0 ≤ g.st ∧ (g.st = (g.out.length : Int) - 1 ∨ g.last < cls T r)
  · rw [if_pos (hcond.2 hc), if_pos hc]
    cases both T (g.out.getD g.st.toNat 0) r with
    | some x => rfl
    | none => rfl
  · rw [if_neg (fun h => hc (hcond.1 h)), if_neg hc]
    rfl
/-- the document's Together -/
def rtg (T : Tab) (l : List Int) : List Int × Int := l.foldl (rstep T) ([], -1)
theorem rtg_snoc (T : Tab) (l : List Int) (r : Int) : rtg T (l ++ [r]) = rstep T (rtg T l) r := by unfold rtg; rw [List.foldl_append]; rfl
theorem rtg_eq (T : Tab) (l : List Int) : rtg T l = ((tgl T l).out, (tgl T l).st) := by
  have key : ∀ (l : List Int) (g : Tg), TgI T g → l.foldl (rstep T) (g.out, g.st) = ((l.foldl (tstep T) g).out, (l.foldl (tstep T) g).st) := by
    intro l
    induction l with
    | nil => intro g _; rfl
    | cons r l ih =>
      intro g hg
      rw [List.foldl_cons, List.foldl_cons, tstep_r hg r]
      exact ih _ (tstep_I hg r)
  exact key l tg0 ⟨by decide, fun h => absurd h (by decide)⟩
theorem rtg_tog (T : Tab) (l : List Int) : (rtg T l).1 = tog T l := by rw [rtg_eq]; rfl
end Go.Proofs.YtbclodbneonipaaGreat
