import Derived.Test.YtlpkcpacfldfaaaGreatFO
import Derived.Test.YtlpkcpacfldfaaaGreatGA
namespace Go.Proofs.YtlpkcpacfldfaaaGreat
open Go.RowKit N
def T1 : Tab := ⟨[], [⟨769, 230⟩], [⟨940, 97, 769, false⟩], [], []⟩
theorem ev1 : apR T1 [940] = ([97, 769], 0) := by decide +kernel
theorem ev2 : foR T1 [97, 769] = ([940], 0) := by decide +kernel
theorem ev3 : foR T0 [4352, 4449, 4520] = ([44033], 0) := by decide +kernel
theorem good1 : Good T1 := by
  refine ⟨⟨by decide, by decide, by decide, by decide, by decide, ?_, ?_, ?_, ?_⟩, ?_, ?_⟩
  · intro x hx; simp [T1] at hx; subst hx; decide
  · intro x hx; simp [T1] at hx
  · intro x hx; simp [T1] at hx
  · intro x hx; simp [T1] at hx
  · intro x hx; simp [T1] at hx; subst hx; decide
  · intro x hx; simp [T1] at hx
theorem good0 : Good T0 := by
  refine ⟨⟨by decide, by decide, by decide, by decide, by decide, ?_, ?_, ?_, ?_⟩, ?_, ?_⟩
  all_goals (intro x hx; simp [T0] at hx)
def q1 (g : Nat) : TQ := ⟨T1, none, some ⟨g, 0, none⟩, some ⟨g + 1, 0, none⟩, none, none, 0, 1, 1, 0, 0⟩
def q0 : TQ := ⟨T0, none, none, none, none, none, 0, 0, 0, 0, 0⟩
theorem lst_nil {α : Type} (w : World) (k : Nat) (enc : α → List Value) : Lst w k enc (.slice none 0 0) [] := ⟨none, 0, rfl, fun _ => rfl, fun i x h => by simp at h⟩
theorem lst_one {α : Type} {w : World} {k g : Nat} {t : TypeId} {enc : α → List Value} {x : α} (h : Has w g (.cells (enc x).toArray t)) : Lst w k enc (.slice (some ⟨g, 0, none⟩) 1 1) [x] := by
  refine ⟨some ⟨g, 0, none⟩, 1, rfl, (fun h => by cases h), fun i y hi => ?_⟩
  cases i with
  | zero =>
    simp only [List.getElem?_cons_zero, Option.some.injEq] at hi
    subst hi
    refine ⟨g, 0, rfl, h.lt, fun j u hj => ?_⟩
    have := h.cell j (v := u) (by simpa using hj)
    simpa using this
  | succ i => simp at hi
theorem tab0 (w : World) : TabAt w q0 := ⟨lst_nil _ _ _, lst_nil _ _ _, lst_nil _ _ _, lst_nil _ _ _, lst_nil _ _ _, fun x hx => by cases hx⟩
theorem tab1 {w : World} {g : Nat} {t u : TypeId} (h1 : Has w g (.cells #[.int .i32 769, .int .u8 230] t)) (h2 : Has w (g + 1) (.cells #[.int .i32 940, .int .i32 97, .int .i32 769, .bool false] u)) : TabAt w (q1 g) :=
  ⟨lst_nil _ _ _, lst_one (x := (⟨769, 230⟩ : Cl)) h1, lst_one (x := (⟨940, 97, 769, false⟩ : Pa)) h2, lst_nil _ _ _, lst_nil _ _ _, fun x hx => by cases hx⟩
theorem wf_lits : Wf32 [940] ∧ Wf32 [97, 769] ∧ Wf32 [4352, 4449, 4520] := by
  refine ⟨?_, ?_, ?_⟩ <;> (intro x hx; simp at hx; rcases hx with rfl | rfl | rfl <;> decide)
abbrev bA : Obj := .cells #[.int .i32 769, .int .u8 230] 74
abbrev bB : Obj := .cells #[.int .i32 940, .int .i32 97, .int .i32 769, .bool false] 54
abbrev bC (g : Nat) : Obj := .cells #[.slice none 0 0, .slice (some ⟨g, 0, none⟩) 1 1, .slice (some ⟨g + 1, 0, none⟩) 1 1, .slice none 0 0, .slice none 0 0] 28
/-- the three blocks of the table -/
def Three (w : World) (g : Nat) : Prop := Has w g bA ∧ Has w (g + 1) bB ∧ Has w (g + 1 + 1) (bC g)
theorem Three.to {w w' : World} {g : Nat} (h : Three w g) (hb : Below w.heap.size w w') : Three w' g := ⟨h.1.to hb, h.2.1.to hb, h.2.2.to hb⟩
theorem three_new (w : World) : Three (((w.alloc bA).alloc bB).alloc (bC w.heap.size)) w.heap.size := by
  refine ⟨((Has.new w bA).alloc _).alloc _, ?_, ?_⟩
  · have := (Has.new (w.alloc bA) bB).alloc (bC w.heap.size)
    rw [World.size_alloc] at this
    exact this
  · have := Has.new ((w.alloc bA).alloc bB) (bC w.heap.size)
    rw [World.size_alloc, World.size_alloc] at this
    exact this
set_option maxRecDepth 20000 in
set_option maxHeartbeats 1000000 in
theorem lives_is (w : World) : Calls Tryz.prog 21 #[] w fun e w' => e = .returned (.bool true) ∧ Below w.heap.size w w' := by
  have HB3 : Hid (Below w.heap.size w (((w.alloc bA).alloc bB).alloc (bC w.heap.size))) := Lib.hid (((bnew w _).alloc (by simp) _).alloc (by simp; omega) _)
  have HT3 := Lib.hid (three_new w)
  obtain ⟨G, hG⟩ : ∃ G, w.heap.size = G := ⟨_, rfl⟩
  go_enter Tryz.func21, Tryz.ntmps21
  go_wp2_with fail
  rw [hG] at HT3 HB3
  obtain ⟨w3, hw3⟩ : ∃ w3, w3 = ((w.alloc bA).alloc bB).alloc (bC G) := ⟨_, rfl⟩
  have hs3 : w3.heap.size = G + 1 + 1 + 1 := by rw [hw3, World.size_alloc, World.size_alloc, World.size_alloc, hG]
  rw [← hw3] at HB3 HT3
  simp only [← hw3, ← hs3]
  have hr0 := runes_lit (l := [940]) (Has.new w3 (.cells #[.int .i32 940] 21)) 1
  have hb0 := bnew w3 (.cells #[.int .i32 940] 21)
  have HT4 := Lib.hid (HT3.out.to hb0)
  have HB4 : Hid (Below G w (w3.alloc (.cells #[.int .i32 940] 21))) := Lib.hid (HB3.out.alloc (by omega) _)
  clear hw3 hb0 HT3 HB3
  refine (apart_is (q1 G) (.slice (some ⟨w3.heap.size, 0, none⟩) 1 1) [940] [97, 769] 0 ev1 _ hr0 wf_lits.1 (by decide) (tab1 HT4.out.1 HT4.out.2.1) good1).mono ?_
  rintro e w1 ⟨v1, rfl, ho1, hb1⟩
  have HT5 := Lib.hid (HT4.out.to hb1)
  have HB5 : Hid (Below G w w1) := Lib.hid (HB4.out.trans (hb1.mono (by have := HB4.out.size; omega)))
  have HO1 := Lib.hid ho1.at
  obtain ⟨p1, c1, rfl, _⟩ := id ho1.form
  clear HT4 HB4 ho1 hb1 hs3 hr0
  have n0 : w1.cell? ⟨G + 1 + 1, 0, none⟩ = some (.slice none 0 0) := HT5.out.2.2.cell 0 rfl
  have n1 : w1.cell? ⟨G + 1 + 1, 1, none⟩ = some (.slice (some ⟨G, 0, none⟩) 1 1) := HT5.out.2.2.cell 1 rfl
  have n2 : w1.cell? ⟨G + 1 + 1, 2, none⟩ = some (.slice (some ⟨G + 1, 0, none⟩) 1 1) := HT5.out.2.2.cell 2 rfl
  have n3 : w1.cell? ⟨G + 1 + 1, 3, none⟩ = some (.slice none 0 0) := HT5.out.2.2.cell 3 rfl
  have n4 : w1.cell? ⟨G + 1 + 1, 4, none⟩ = some (.slice none 0 0) := HT5.out.2.2.cell 4 rfl
  go_wp2_with fail
  have hr1 := runes_lit (l := [97, 769]) (Has.new w1 (.cells #[.int .i32 97, .int .i32 769] 21)) 2
  have hb1 := bnew w1 (.cells #[.int .i32 97, .int .i32 769] 21)
  have HT6 := Lib.hid (HT5.out.to hb1)
  have HB6 : Hid (Below G w (w1.alloc (.cells #[.int .i32 97, .int .i32 769] 21))) := Lib.hid (HB5.out.alloc (by have := HB5.out.size; omega) _)
  have HO6 := Lib.hid (HO1.out.below hb1)
  clear n0 n1 n2 n3 n4 hb1 HT5 HB5 HO1
  refine (form_is (q1 G) (.slice (some ⟨w1.heap.size, 0, none⟩) 2 2) [97, 769] [940] 0 ev2 _ hr1 wf_lits.2.1 (by decide) (tab1 HT6.out.1 HT6.out.2.1) good1).mono ?_
  rintro e w2 ⟨v2, rfl, ho2, hb2⟩
  have HB7 : Hid (Below G w w2) := Lib.hid (HB6.out.trans (hb2.mono (by have := HB6.out.size; omega)))
  have HO7 := Lib.hid (HO6.out.below hb2)
  have HP7 := Lib.hid ho2.at
  obtain ⟨p2, c2, rfl, _⟩ := id ho2.form
  clear HT6 HB6 HO6 ho2 hb2 hr1
  go_wp2_with fail
  have hr2 := runes_lit (l := [4352, 4449, 4520]) (Has.new w2 (.cells #[.int .i32 4352, .int .i32 4449, .int .i32 4520] 21)) 3
  have hb2 := bnew w2 (.cells #[.int .i32 4352, .int .i32 4449, .int .i32 4520] 21)
  have HB8 : Hid (Below G w (w2.alloc (.cells #[.int .i32 4352, .int .i32 4449, .int .i32 4520] 21))) := Lib.hid (HB7.out.alloc (by have := HB7.out.size; omega) _)
  have HO8 := Lib.hid (And.intro (HO7.out.below hb2) (HP7.out.below hb2))
  clear hb2 HB7 HO7 HP7
  refine (form_is q0 (.slice (some ⟨w2.heap.size, 0, none⟩) 3 3) [4352, 4449, 4520] [44033] 0 ev3 _ hr2 wf_lits.2.2 (by decide) (tab0 _) good0).mono ?_
  rintro e w3 ⟨v3, rfl, ho3, hb3⟩
  have HB9 : Hid (Below G w w3) := Lib.hid (HB8.out.trans (hb3.mono (by have := HB8.out.size; omega)))
  have HO9 := Lib.hid (And.intro (HO8.out.1.below hb3) (And.intro (HO8.out.2.below hb3) ho3.at))
  obtain ⟨p3, c3, rfl, _⟩ := id ho3.form
  clear HB8 HO8 ho3 hb3 hr2
  go_wp2_with fail
  have hra := runes_lit (l := [97, 769]) (Has.new w3 (.cells #[.int .i32 97, .int .i32 769] 21)) 2
  have hba := bnew w3 (.cells #[.int .i32 97, .int .i32 769] 21)
  refine (same_is _ _ [97, 769] [97, 769] true (by decide) (by decide) _ (HO9.out.1.below hba) hra).mono ?_
  rintro e w4 ⟨rfl, hb4⟩
  have HB10 : Hid (Below G w w4) := Lib.hid ((HB9.out.alloc (by have := HB9.out.size; omega) _).trans (hb4.mono (by rw [World.size_alloc]; have := HB9.out.size; omega)))
  have HO10 := Lib.hid (And.intro ((HO9.out.2.1.below hba).below hb4) ((HO9.out.2.2.below hba).below hb4))
  clear HB9 HO9 hra hba hb4
  go_wp2_with fail
  have hra := runes_lit (l := [940]) (Has.new w4 (.cells #[.int .i32 940] 21)) 1
  have hba := bnew w4 (.cells #[.int .i32 940] 21)
  refine (same_is _ _ [940] [940] true (by decide) (by decide) _ (HO10.out.1.below hba) hra).mono ?_
  rintro e w5 ⟨rfl, hb5⟩
  have HB11 : Hid (Below G w w5) := Lib.hid ((HB10.out.alloc (by have := HB10.out.size; omega) _).trans (hb5.mono (by rw [World.size_alloc]; have := HB10.out.size; omega)))
  have HO11 := Lib.hid ((HO10.out.2.below hba).below hb5)
  clear HB10 HO10 hra hba hb5
  go_wp2_with fail
  have hra := runes_lit (l := [44033]) (Has.new w5 (.cells #[.int .i32 44033] 21)) 1
  have hba := bnew w5 (.cells #[.int .i32 44033] 21)
  refine (same_is _ _ [44033] [44033] true (by decide) (by decide) _ (HO11.out.below hba) hra).mono ?_
  rintro e w6 ⟨rfl, hb6⟩
  have HB12 : Hid (Below G w w6) := Lib.hid ((HB11.out.alloc (by have := HB11.out.size; omega) _).trans (hb6.mono (by rw [World.size_alloc]; have := HB11.out.size; omega)))
  clear HB11 HO11 hra hba hb6
  go_wp2
  go_ret
  exact ⟨rfl, by rw [hG]; exact HB12.out⟩
end Go.Proofs.YtlpkcpacfldfaaaGreat
