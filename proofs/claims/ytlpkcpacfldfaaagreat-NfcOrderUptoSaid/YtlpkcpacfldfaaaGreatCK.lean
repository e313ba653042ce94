import Derived.Test.YtlpkcpacfldfaaaGreatCS
import Derived.Test.YtlpkcpacfldfaaaGreatGG
import Derived.Test.YtlpkcpacfldfaaaGreatGF
namespace Go.Proofs.YtlpkcpacfldfaaaGreat
open Go.RowKit N
def MapsNil (T : Tab) : Prop := ∀ x ∈ T.spans, ∀ n c, x.mv = .slice none n c → n = 0 ∧ c = 0
/-- what is known of a table that came in -/
structure Good (T : Tab) : Prop where
  f : Fit T
  p : PairWf T
  n : MapsNil T
def risesT (T : Tab) : Bool := riseF (-1) (T.spans.map fun x => (x.lo, x.hi)) && (riseF (-1) (T.classes.map fun x => (x.r, x.r)) && (riseF (-1) (T.pairs.map fun x => (x.r, x.r)) && (riseF (-1) (T.ways.map fun x => (x.lo, x.hi)) && (riseF (-1) (T.joins.map fun x => (x.lo, x.hi))))))
def bothB (l : List Pa) : Bool := l.all paB && distB l
def mayB (l : List Int) : Bool := decide (l.map U.rep = l)
/-- what Check answers -/
def chk (T : Tab) : Int := if longT T then 3 else if allB (T.spans.all spB) (T.classes.all clB) (bothB T.pairs) (T.ways.all wyB) (T.joins.all jnB) (risesT T) (mayB (runesT T)) then 0 else 2
theorem short_of {T : Tab} (h : longT T = false) : T.spans.length ≤ 1024 ∧ T.classes.length ≤ 1024 ∧ T.pairs.length ≤ 1024 ∧ T.ways.length ≤ 1024 ∧ T.joins.length ≤ 1024 := by
  simp only [longT, Bool.or_eq_false_iff, decide_eq_false_iff_not] at h
  omega
set_option maxHeartbeats 1000000 in
theorem check3 (q : TQ) (g : Nat) (b : Bool) (hb : bothB q.T.pairs = b) (w : World) (hG : Has w g (.cells q.cs 28)) (h : TabAt w q) (hl : longT q.T = false) (hg : Good q.T) :
    Calls Tryz.prog 160 #[.pointer (some ⟨g, 0, none⟩)] w fun e w' => e = .returned (.bool b) ∧ Below w.heap.size w w' := by
  have hs := short_of hl
  have hm : q.T.pairs.length ≤ maxLen := by unfold maxLen; omega
  have c0 : w.cell? ⟨g, 2, none⟩ = some q.v2 := hG.cell 2 rfl
  obtain ⟨b1, hb1⟩ : ∃ b1, q.T.pairs.all paB = b1 := ⟨_, rfl⟩
  obtain ⟨b2, hb2⟩ : ∃ b2, distB q.T.pairs = b2 := ⟨_, rfl⟩
  have HE := Lib.hid (every_pair paB q.v2 q.T.pairs b1 hb1 w hm h.p (fun x _ w => pairHolds x w))
  have HD : Hid (∀ w', Below w.heap.size w w' → Calls Tryz.prog 163 #[.slice q.p2 q.T.pairs.length q.c2] w' fun e w'' => e = .returned (.bool b2) ∧ Below w'.heap.size w' w'') := Lib.hid (fun w' hb => distinct_is q b2 hb2 w' hs.2.2.1 hg.p (h.below hb))
  have HB : Hid ((b1 && b2) = b) := Lib.hid (by rw [← hb1, ← hb2, ← hb]; rfl)
  have HG := Lib.hid hG
  unfold TQ.v2 at c0
  clear hb hG h hl hg hb1 hb2 hs hm
  go_enter Tryz.func160, Tryz.ntmps160
  go_wp2_with fail
  refine HE.out.mono ?_
  rintro e w1 ⟨rfl, hb1⟩
  have c1 : w1.cell? ⟨g, 2, none⟩ = some (.slice q.p2 q.T.pairs.length q.c2) := (HG.out.to hb1).cell 2 rfl
  have HB1 := Lib.hid hb1
  clear hb1 c0
  cases b1 with
  | false =>
    have HZ : Hid (b = false) := Lib.hid (by rw [← HB.out]; rfl)
    go_wp2
    go_ret
    exact ⟨by rw [HZ.out]; rfl, HB1.out⟩
  | true =>
    have HZ : Hid (b = b2) := Lib.hid (by rw [← HB.out]; rfl)
    go_wp2_with fail
    refine (HD.out _ HB1.out).mono ?_
    rintro e w2 ⟨rfl, hb2⟩
    go_wp2
    go_ret
    exact ⟨by rw [HZ.out]; rfl, bel2 HB1.out hb2⟩
theorem spB_map {x : Sp} (h : spB x = true) : x.map.length ≤ 8 := by
  unfold spB at h
  split at h
  · cases h
  · split at h
    · exact of_decide_eq_true h
    · have := of_decide_eq_true h; omega
theorem runesT_len {T : Tab} (hl : longT T = false) (hm : ∀ x ∈ T.spans, x.map.length ≤ 8) : (runesT T).length ≤ 30000 := by
  have hs := short_of hl
  have h1 := fm_len (f := spR) (c := 10) T.spans (fun x hx => by have := hm x hx; simp only [spR, List.length_cons]; omega)
  have h2 := fm_len (f := clR) (c := 1) T.classes (fun x _ => by simp [clR])
  have h3 := fm_len (f := paR) (c := 3) T.pairs (fun x _ => by simp [paR])
  have h4 := fm_len (f := sgR) (c := 2) T.ways (fun x _ => by simp [sgR])
  have h5 := fm_len (f := sgR) (c := 2) T.joins (fun x _ => by simp [sgR])
  unfold runesT
  simp only [List.length_append]
  omega
set_option maxHeartbeats 1000000 in
theorem check7 (q : TQ) (g : Nat) (b : Bool) (hb : mayB (runesT q.T) = b) (h1 : q.T.spans.all spB = true) (w : World) (hG : Has w g (.cells q.cs 28)) (h : TabAt w q) (hl : longT q.T = false) (hg : Good q.T) :
    Calls Tryz.prog 178 #[.pointer (some ⟨g, 0, none⟩)] w fun e w' => e = .returned (.bool b) ∧ Below w.heap.size w w' := by
  have hm : ∀ x ∈ q.T.spans, x.map.length ≤ 8 := fun x hx => spB_map (List.all_eq_true.1 h1 x hx)
  have m0 : w.cell? ⟨g, 0, none⟩ = some (.slice q.p0 q.T.spans.length q.c0) := hG.cell 0 rfl
  have m1 : w.cell? ⟨g, 1, none⟩ = some (.slice q.p1 q.T.classes.length q.c1) := hG.cell 1 rfl
  have m2 : w.cell? ⟨g, 2, none⟩ = some (.slice q.p2 q.T.pairs.length q.c2) := hG.cell 2 rfl
  have m3 : w.cell? ⟨g, 3, none⟩ = some (.slice q.p3 q.T.ways.length q.c3) := hG.cell 3 rfl
  have m4 : w.cell? ⟨g, 4, none⟩ = some (.slice q.p4 q.T.joins.length q.c4) := hG.cell 4 rfl
  obtain ⟨L, hL⟩ : ∃ L, runesT q.T = L := ⟨_, rfl⟩
  have hLl : L.length ≤ 30000 := by rw [← hL]; exact runesT_len hl hm
  have HR := Lib.hid (runes_is q L hL w (short_of hl) hm hg.n h)
  rw [hL] at hb
  have HB := Lib.hid hb
  clear hb hG h hl hg hm h1 hL
  go_enter Tryz.func178, Tryz.ntmps178
  go_wp2_with fail
  refine HR.out.mono ?_
  rintro e w1 ⟨v, rfl, ho, hb1⟩
  have HO := Lib.hid ho.at
  have HB1 := Lib.hid hb1
  clear ho hb1 m0 m1 m2 m3 m4
  go_wp2_with fail
  refine (mayBe_is v L b HB.out (by omega) _ HO.out).mono ?_
  rintro e w2 ⟨rfl, hb2⟩
  go_wp2
  go_ret
  exact ⟨rfl, bel2 HB1.out hb2⟩
/-- tables.Check -/
theorem check_is (q : TQ) (c : Int) (hc : chk q.T = c) (w : World) (hT : TabAt w q) (hg : Good q.T) : Calls Tryz.prog 45 #[q.v] w fun e w' => e = .returned (.int .i64 c) ∧ Below w.heap.size w w' := by
  subst hc
  unfold chk
  cases hl : longT q.T with
  | true => exact check_long q hl w hg.f
  | false =>
    exact check_short q hl _ _ (bothB q.T.pairs) _ _ _ (mayB (runesT q.T)) w hg.f hT rfl rfl rfl rfl rfl (fun g w' h1 h2 => check3 q g _ rfl w' h1 h2 hl hg) (fun hb g w' h1 h2 => check7 q g _ rfl hb w' h1 h2 hl hg)
theorem chk_vals (T : Tab) : chk T = 0 ∨ chk T = 2 ∨ chk T = 3 := by
  unfold chk
  split
  · exact .inr (.inr rfl)
  · split
    · exact .inl rfl
    · exact .inr (.inl rfl)
end Go.Proofs.YtlpkcpacfldfaaaGreat
