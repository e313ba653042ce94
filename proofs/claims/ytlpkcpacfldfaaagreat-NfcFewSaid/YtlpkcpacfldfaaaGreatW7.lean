import Derived.Test.YtlpkcpacfldfaaaGreatLI
namespace Go.Proofs.YtlpkcpacfldfaaaGreat
open Go.RowKit N
theorem fo_ap (T : Tab) (l : List Int) : (foR T l).2 = (apR T l).2 ∧ (foR T l).1.length ≤ (apR T l).1.length := by
  unfold foR
  split
  · exact ⟨rfl, Nat.zero_le _⟩
  · rename_i h
    refine ⟨?_, ?_⟩
    · have : (apR T l).2 = 0 := by simpa using h
      rw [this]
    · have := tog_len T (ord (cls T) (apR T l).1)
      rw [ord_len] at this
      exact this
set_option maxRecDepth 20000 in
set_option maxHeartbeats 1000000 in
theorem NfcFew_walk (q : TQ) (v : Value) (l : List Int) (w : World) (hv : RunesAt w v l) (hw : Wf32 l) (hl : 4 * l.length ≤ 140737488351232) (hT : TabAt w q) (hg : Good q.T) :
    Calls Tryz.prog 7 #[q.v, v] w fun e w' => e = .returned (.bool true) ∧ Below w.heap.size w w' := by
  obtain ⟨p, cap, rfl, hc⟩ := id hv
  obtain ⟨A, hA⟩ : ∃ A, (apR q.T l).1 = A := ⟨_, rfl⟩
  obtain ⟨y, hy⟩ : ∃ y, (apR q.T l).2 = y := ⟨_, rfl⟩
  obtain ⟨F, hF⟩ : ∃ F, (foR q.T l).1 = F := ⟨_, rfl⟩
  obtain ⟨L, hL⟩ : ∃ L, tog q.T l = L := ⟨_, rfl⟩
  have hLl : L.length ≤ l.length := by rw [← hL]; exact tog_len _ _
  obtain ⟨hy2, hFA⟩ := fo_ap q.T l
  rw [hF, hA] at hFA
  have HA : Hid (apR q.T l = (A, y)) := Lib.hid (by rw [← hA, ← hy])
  have HF : Hid (foR q.T l = (F, y)) := Lib.hid (by rw [← hF, ← hy, ← hy2])
  have HL := Lib.hid hL
  have HV := Lib.hid (And.intro hv (And.intro hw (show l.length ≤ 35184372088320 by omega)))
  have HT := Lib.hid (And.intro hT hg)
  have HG0 := Lib.hid (Has.new w (.cells q.cs 28))
  have HB0 := Lib.hid (bnew w (.cells q.cs 28))
  clear hv hw hc hA hy hF hL hy2 hT hg
  unfold TQ.v
  go_enter Tryz.func7, Tryz.ntmps7
  go_wp2_with fail
  refine (lives_is _).mono ?_
  rintro e w1 ⟨rfl, hb1⟩
  have HG1 := Lib.hid (HG0.out.to hb1)
  have HB1 := Lib.hid (bel2 HB0.out hb1)
  have m0 : w1.cell? ⟨w.heap.size, 0, none⟩ = some (.slice q.p0 q.T.spans.length q.c0) := HG1.out.cell 0 rfl
  have m1 : w1.cell? ⟨w.heap.size, 1, none⟩ = some (.slice q.p1 q.T.classes.length q.c1) := HG1.out.cell 1 rfl
  have m2 : w1.cell? ⟨w.heap.size, 2, none⟩ = some (.slice q.p2 q.T.pairs.length q.c2) := HG1.out.cell 2 rfl
  have m3 : w1.cell? ⟨w.heap.size, 3, none⟩ = some (.slice q.p3 q.T.ways.length q.c3) := HG1.out.cell 3 rfl
  have m4 : w1.cell? ⟨w.heap.size, 4, none⟩ = some (.slice q.p4 q.T.joins.length q.c4) := HG1.out.cell 4 rfl
  clear hb1
  go_wp2_with fail
  refine (together_is q (.slice p l.length cap) l L HL.out _ (HV.out.1.below HB1.out) HV.out.2.1 (by omega) (HT.out.1.below HB1.out) HT.out.2.f HT.out.2.p).mono ?_
  rintro e w2 ⟨v2, rfl, ho2, hb2⟩
  have HG2 := Lib.hid (HG1.out.to hb2)
  have HB2 := Lib.hid (bel2 HB1.out hb2)
  obtain ⟨p2, c2, rfl, _⟩ := id ho2.form
  clear ho2 hb2 m0 m1 m2 m3 m4
  have m0 : w2.cell? ⟨w.heap.size, 0, none⟩ = some (.slice q.p0 q.T.spans.length q.c0) := HG2.out.cell 0 rfl
  have m1 : w2.cell? ⟨w.heap.size, 1, none⟩ = some (.slice q.p1 q.T.classes.length q.c1) := HG2.out.cell 1 rfl
  have m2 : w2.cell? ⟨w.heap.size, 2, none⟩ = some (.slice q.p2 q.T.pairs.length q.c2) := HG2.out.cell 2 rfl
  have m3 : w2.cell? ⟨w.heap.size, 3, none⟩ = some (.slice q.p3 q.T.ways.length q.c3) := HG2.out.cell 3 rfl
  have m4 : w2.cell? ⟨w.heap.size, 4, none⟩ = some (.slice q.p4 q.T.joins.length q.c4) := HG2.out.cell 4 rfl
  have hno : ¬ ((l.length : Int) < (L.length : Int)) := by omega
  go_wp2_with fail
  refine (apart_is q (.slice p l.length cap) l A y HA.out _ (HV.out.1.below HB2.out) HV.out.2.1 HV.out.2.2 (HT.out.1.below HB2.out) HT.out.2).mono ?_
  rintro e w3 ⟨v3, rfl, ho3, hb3⟩
  have HG3 := Lib.hid (HG2.out.to hb3)
  have HB3 := Lib.hid (bel2 HB2.out hb3)
  obtain ⟨p3, c3, rfl, _⟩ := id ho3.form
  clear ho3 hb3 m0 m1 m2 m3 m4
  have m0 : w3.cell? ⟨w.heap.size, 0, none⟩ = some (.slice q.p0 q.T.spans.length q.c0) := HG3.out.cell 0 rfl
  have m1 : w3.cell? ⟨w.heap.size, 1, none⟩ = some (.slice q.p1 q.T.classes.length q.c1) := HG3.out.cell 1 rfl
  have m2 : w3.cell? ⟨w.heap.size, 2, none⟩ = some (.slice q.p2 q.T.pairs.length q.c2) := HG3.out.cell 2 rfl
  have m3 : w3.cell? ⟨w.heap.size, 3, none⟩ = some (.slice q.p3 q.T.ways.length q.c3) := HG3.out.cell 3 rfl
  have m4 : w3.cell? ⟨w.heap.size, 4, none⟩ = some (.slice q.p4 q.T.joins.length q.c4) := HG3.out.cell 4 rfl
  go_wp2_with fail
  refine (form_is q (.slice p l.length cap) l F y HF.out _ (HV.out.1.below HB3.out) HV.out.2.1 HV.out.2.2 (HT.out.1.below HB3.out) HT.out.2).mono ?_
  rintro e w4 ⟨v4, rfl, ho4, hb4⟩
  have HB4 := Lib.hid (bel2 HB3.out hb4)
  obtain ⟨p4, c4, rfl, _⟩ := id ho4.form
  clear ho4 hb4 m0 m1 m2 m3 m4
  go_wp2
  go_ret
  exact ⟨rfl, HB4.out⟩
end Go.Proofs.YtlpkcpacfldfaaaGreat
